package crc

import (
	"bytes"
	"math"
	"testing"

	"remora/api"
)

// goneOn: a register after so many shifts, as the document's words have it.
func goneOn(reg uint32, shifts int) uint32 {
	for range shifts {
		fell := reg & 1
		reg >>= 1
		if fell == 1 {
			reg ^= 0xEDB88320
		}
	}
	return reg
}

// plain: the sum of a text, as the document's words have it.
func plain(text []byte) uint32 {
	reg := ^uint32(0)
	for _, c := range text {
		reg = goneOn(reg^uint32(c), 8)
	}
	return ^reg
}

// sample: so many bytes that look like chance, other ones for each seed.
func sample(many int, seed uint32) []byte {
	out := make([]byte, many)
	for i := range out {
		seed = seed*1664525 + 1013904223
		out[i] = byte(seed >> 24)
	}
	return out
}

// P2.1.
func TestOf(t *testing.T) {
	rows := []struct {
		parts [][]byte
		want  uint32
	}{
		{nil, 0},
		{[][]byte{nil}, 0},
		{[][]byte{{}, nil}, 0},
		{[][]byte{[]byte("a")}, 0xE8B7BE43},
		{[][]byte{[]byte("123456789")}, 0xCBF43926},
		{[][]byte{[]byte("1234"), nil, []byte("56789")}, 0xCBF43926},
		{[][]byte{[]byte("1"), []byte("2345678"), []byte("9"), {}}, 0xCBF43926},
		{[][]byte{{0}}, 0xD202EF8D},
		{[][]byte{{0xFF}}, 0xFF000000},
		{[][]byte{{0xFF, 0xFF, 0xFF, 0xFF}}, 0xFFFFFFFF},
	}
	for _, r := range rows {
		if got := Of(r.parts...); got != r.want {
			t.Errorf("Of(%q) = %08X, want %08X", r.parts, got, r.want)
		}
	}
	for c := range 256 {
		if got, want := Of([]byte{byte(c)}), plain([]byte{byte(c)}); got != want {
			t.Errorf("Of the byte %d = %08X, want %08X", c, got, want)
		}
	}
	for many := range 200 {
		text := sample(many, uint32(many))
		cut := many / 3
		if got, want := Of(text[:cut], text[cut:]), plain(text); got != want {
			t.Errorf("Of %d bytes = %08X, want %08X", many, got, want)
		}
	}
}

// P2.2.
func TestJoin(t *testing.T) {
	registers := []uint32{0, 1, 7, 0x80000000, 0xEDB88320, 0xCBF43926, 0xFFFFFFFF}
	for _, a := range registers {
		for n := range 70 {
			if got, want := Join(a, 9, n), goneOn(a, 8*n)^9; got != want {
				t.Errorf("Join(%08X, 9, %d) = %08X, want %08X", a, n, got, want)
			}
		}
		for _, n := range []int{0, -1, -5, math.MinInt} {
			if got := Join(a, 9, n); got != a^9 {
				t.Errorf("Join(%08X, 9, %d) = %08X, want %08X", a, n, got, a^9)
			}
		}
		if got, want := Join(a, 0, 100000), goneOn(a, 800000); got != want {
			t.Errorf("Join(%08X, 0, 100000) = %08X, want %08X", a, got, want)
		}
	}
}

// To go on by a very great n is to go on by its halves, and these can be followed down to what is counted.
func TestJoinByVeryGreatNumbers(t *testing.T) {
	halved := func(a uint32, n int) uint32 { return Join(Join(a, 0, n/2), 0, n-n/2) }
	for _, a := range []uint32{1, 0xCBF43926, 0xFFFFFFFF} {
		for _, n := range []int{math.MaxInt, math.MaxInt - 1, 1 << 62, 1 << 61, 1<<61 - 1, 1 << 60, 1 << 32, 1<<32 - 1, 1 << 31, 1 << 29, 1 << 20} {
			if got, want := Join(a, 0, n), halved(a, n); got != want {
				t.Errorf("Join(%08X, 0, %d) = %08X, want %08X", a, n, got, want)
			}
		}
		// A register comes round after 2^32 - 1 shifts, so after as many bytes too.
		const round = 1<<32 - 1
		for _, n := range []int{round, math.MaxInt, math.MaxInt - 12345, 1 << 62} {
			if got, want := Join(a, 0, n), Join(a, 0, n%round); got != want {
				t.Errorf("Join(%08X, 0, %d) = %08X, want %08X", a, n, got, want)
			}
		}
	}
}

// P2.3.
func TestSeal(t *testing.T) {
	if got := Seal(nil); !bytes.Equal(got, []byte{0, 0, 0, 0}) {
		t.Errorf("Seal of no bytes = %v", got)
	}
	want := []byte("123456789\x26\x39\xF4\xCB")
	if got := Seal([]byte("123456789")); !bytes.Equal(got, want) {
		t.Errorf("Seal(123456789) = %q, want %q", got, want)
	}
	if got := Seal(want); len(got) != 17 || !bytes.Equal(got[:13], want) {
		t.Errorf("Seal of what is sealed = %q", got)
	}
}

// P2.4.
func TestOpen(t *testing.T) {
	for many := range 60 {
		text := sample(many, 5)
		if got, err := Open(Seal(text)); err != api.OK || !bytes.Equal(got, text) {
			t.Errorf("Open of %d sealed bytes = %v, %d", many, got, err)
		}
	}
	rows := []struct {
		b    []byte
		want api.Errno
	}{
		{nil, api.ErrEnd},
		{[]byte{0}, api.ErrEnd},
		{[]byte{0, 0, 0}, api.ErrEnd},
		{[]byte{1, 2, 3}, api.ErrEnd},
		{[]byte{0, 0, 0, 1}, api.ErrSum},
		{[]byte{1, 0, 0, 0}, api.ErrSum},
		{[]byte{0, 0, 0, 0, 0}, api.ErrSum},
		{[]byte("123456789\xCB\xF4\x39\x26"), api.ErrSum},
		{[]byte("12345678\x26\x39\xF4\xCB"), api.ErrSum},
	}
	for _, r := range rows {
		if got, err := Open(r.b); err != r.want || len(got) != 0 {
			t.Errorf("Open(%v) = %v, %d, want error %d", r.b, got, err, r.want)
		}
	}
	if got, err := Open([]byte{0, 0, 0, 0}); err != api.OK || len(got) != 0 {
		t.Errorf("Open of four bytes 0 = %v, %d", got, err)
	}
}

// P2.5.
func TestJoinIsTheSumOfBoth(t *testing.T) {
	text := sample(3000, 11)
	for _, cut := range []int{0, 1, 2, 3, 4, 255, 256, 1500, 2999, 3000} {
		first, second := text[:cut], text[cut:]
		if got, want := Join(Of(first), Of(second), len(second)), Of(text); got != want {
			t.Errorf("Join at %d = %08X, want %08X", cut, got, want)
		}
	}
}

// P2.6: bits are in a row as the register takes them, the lowest one of a byte first.
func TestBurstsAreFound(t *testing.T) {
	sealed := Seal(sample(9, 3))
	last := len(sealed)*8 - 32
	for from := range last + 1 {
		for seed := range uint32(200) {
			row := sample(4, seed+1)
			switch seed {
			case 0:
				row = []byte{1, 0, 0, 0}
			case 1:
				row = []byte{0, 0, 0, 128}
			case 2:
				row = []byte{255, 255, 255, 255}
			case 3:
				row = []byte{1, 0, 0, 128}
			}
			turned := bytes.Clone(sealed)
			for i := range 32 {
				bit := row[i/8] >> (i % 8) & 1
				turned[(from+i)/8] ^= bit << ((from + i) % 8)
			}
			if got, err := Open(turned); err != api.ErrSum || len(got) != 0 {
				t.Fatalf("a burst %v from bit %d on is opened: %v, %d", row, from, got, err)
			}
		}
	}
}

// P2.7.
func TestThreeTextsXored(t *testing.T) {
	for many := range 100 {
		a, b, c := sample(many, 1), sample(many, 2), sample(many, 3)
		all := make([]byte, many)
		for i := range all {
			all[i] = a[i] ^ b[i] ^ c[i]
		}
		if got, want := Of(all), Of(a)^Of(b)^Of(c); got != want {
			t.Errorf("of %d bytes: %08X, want %08X", many, got, want)
		}
	}
}

// What is handed in is neither changed nor kept, its spare room included.
func TestAnswersAreNewMemory(t *testing.T) {
	room := bytes.Repeat([]byte{7}, 20)
	sealed := Seal(room[:5])
	if !bytes.Equal(room, bytes.Repeat([]byte{7}, 20)) {
		t.Errorf("Seal changed what was handed in: %v", room)
	}
	clear(room)
	if !bytes.Equal(sealed[:5], []byte{7, 7, 7, 7, 7}) {
		t.Errorf("Seal keeps what was handed in: %v", sealed)
	}
	before := bytes.Clone(sealed)
	opened, _ := Open(sealed)
	clear(opened[:cap(opened)])
	if !bytes.Equal(sealed, before) {
		t.Errorf("Open shares what it answers: %v", sealed)
	}
}
