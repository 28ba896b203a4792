package roll

import (
	"bytes"
	"math"
	"testing"

	"remora/api"
)

// plain: the sum of a text, as the document's words have it.
func plain(text []byte) uint32 {
	a, b := 0, 0
	for i, c := range text {
		a = (a + int(c) + 31) % 65536
		b = (b + (int(c)+31)*(len(text)-i)) % 65536
	}
	return uint32(a + 65536*b)
}

// modulo: n modulo 65536, from 0 on.
func modulo(n int) int {
	return (n%65536 + 65536) % 65536
}

// of: a sum of both halves, whatever numbers they are.
func of(x, y int) uint32 {
	return uint32(modulo(x) + 65536*modulo(y))
}

// sample: so many bytes that look like chance, other ones for each seed.
func sample(many int, seed uint32) []byte {
	out := make([]byte, many)
	for i := range out {
		seed = seed*1664525 + 1013904223
		out[i] = byte(seed >> 24)
	}
	return out
}

// texts: of many lengths, and with the greatest bytes, so that both halves go round.
func texts() [][]byte {
	var out [][]byte
	for n := range 70 {
		out = append(out, sample(n, uint32(n)), bytes.Repeat([]byte{255}, n), bytes.Repeat([]byte{0}, n))
	}
	for _, n := range []int{229, 230, 1000, api.MaxBlock, 65535, 65536, 65537, 70000} {
		out = append(out, sample(n, 9), bytes.Repeat([]byte{255}, n))
	}
	return out
}

// The words of the chapter, and its examples.
func TestOf(t *testing.T) {
	rows := []struct {
		text string
		want uint32
	}{
		{"", 0},
		{"a", 8388736},
		{"\x00", 31 + 65536*31},
		{"ab", 128 + 129 + 65536*(2*128+129)},
		{"abc", 128 + 129 + 130 + 65536*(3*128+2*129+130)},
	}
	for _, r := range rows {
		if got := Of([]byte(r.text)); got != r.want {
			t.Errorf("Of %q: %d, not %d", r.text, got, r.want)
		}
	}
	for _, b := range texts() {
		if got := Of(b); got != plain(b) {
			t.Fatalf("Of %d bytes: %d, not %d", len(b), got, plain(b))
		}
	}
	if Of(nil) != 0 {
		t.Error("Of nil is not 0")
	}
	if Roll(Of([]byte("ab")), 2, 'a', 'c') != Of([]byte("bc")) || In(Out(Of([]byte("ab")), 2, 'a'), 1, 'c') != Of([]byte("bc")) {
		t.Error("ab, with c in and a out, is not bc")
	}
}

// P4.1: one byte in, one out, both.
func TestOneByteOn(t *testing.T) {
	for _, b := range texts() {
		n := len(b)
		for _, c := range []byte{0, 1, 'c', 224, 225, 255} {
			longer := append(bytes.Clone(b), c)
			if got := In(Of(b), n, c); got != plain(longer) {
				t.Fatalf("In, %d bytes and %d: %d, not %d", n, c, got, plain(longer))
			}
			if n == 0 {
				continue
			}
			if got := Roll(Of(b), n, b[0], c); got != plain(longer[1:]) {
				t.Fatalf("Roll, %d bytes and %d: %d, not %d", n, c, got, plain(longer[1:]))
			}
		}
		if n > 0 && Out(Of(b), n, b[0]) != plain(b[1:]) {
			t.Fatalf("Out, %d bytes: %d, not %d", n, Out(Of(b), n, b[0]), plain(b[1:]))
		}
	}
}

// P4.1: two texts, cut anywhere.
func TestJoin(t *testing.T) {
	for _, b := range texts() {
		step := max(1, len(b)/9)
		for cut := 0; cut <= len(b); cut += step {
			if got := Join(Of(b[:cut]), Of(b[cut:]), len(b)-cut); got != plain(b) {
				t.Fatalf("Join, %d bytes cut at %d: %d, not %d", len(b), cut, got, plain(b))
			}
		}
		if Join(Of(b), 0, 0) != plain(b) || Join(0, Of(b), len(b)) != plain(b) {
			t.Fatalf("Join, %d bytes and none", len(b))
		}
	}
}

// The words of the chapter: any sums and any n, also such that no text has.
func TestAnyNumbers(t *testing.T) {
	sums := []uint32{0, 1, 31, 65535, 65536, 65537, 0x12345678, 0x80008000, 0xFFFF0000, math.MaxUint32}
	counts := []int{0, 1, 2, -1, -2, 65535, 65536, 65537, -65535, -65536, -65537, 1 << 32, 1<<32 + 3, math.MaxInt, math.MinInt, math.MinInt + 5}
	for _, w := range sums {
		x, y := int(w%65536), int(w/65536)
		for _, n := range counts {
			for _, c := range []byte{0, 7, 255} {
				k := int(c) + 31
				in, out := of(x+k, y+x+k), of(x-k, y-modulo(n)*k)
				if In(w, n, c) != in || Out(w, n, c) != out || Roll(w, n, c, 9) != In(out, n, 9) {
					t.Fatalf("of %d, %d, %d: %d, %d, %d", w, n, c, In(w, n, c), Out(w, n, c), Roll(w, n, c, 9))
				}
			}
			for _, v := range sums {
				want := of(x+int(v%65536), y+int(v/65536)+modulo(n)*x)
				if got := Join(w, v, n); got != want {
					t.Fatalf("Join %d, %d, %d: %d, not %d", w, v, n, got, want)
				}
			}
		}
	}
}

// What New refuses.
func TestNew(t *testing.T) {
	for _, size := range []int{0, -1, api.MaxFile + 1, math.MaxInt, math.MinInt} {
		if w, err := New(size); w != nil || err != api.ErrArg {
			t.Errorf("New %d: %v, %d", size, w, err)
		}
	}
	for _, size := range []int{1, 2, api.MaxFile} {
		w, err := New(size)
		if err != api.OK || w.Len() != 0 || w.Full() || w.Sum() != 0 || len(w.Bytes()) != 0 {
			t.Errorf("New %d is not an empty window: %d", size, err)
		}
	}
}

// hold: is the window what it is to be of, all that was pushed being text?
func hold(t *testing.T, w *Window, size int, text []byte) {
	t.Helper()
	want := text[max(0, len(text)-size):]
	if !bytes.Equal(w.Bytes(), want) || w.Sum() != plain(want) || w.Len() != len(want) || w.Full() != (len(want) == size) {
		t.Fatalf("a window of %d, behind %d bytes: %d bytes, sum %d, full %v", size, len(text), w.Len(), w.Sum(), w.Full())
	}
}

// P4.2.
func TestWindow(t *testing.T) {
	text := sample(400, 4)
	for _, size := range []int{1, 2, 3, 16, 64, 399, 400, 401} {
		w, _ := New(size)
		for i, c := range text {
			if got, want := w.Push(c), plain(text[max(0, i+1-size):i+1]); got != want {
				t.Fatalf("a window of %d, push %d: %d, not %d", size, i, got, want)
			}
			hold(t, w, size, text[:i+1])
		}
	}
}

// P4.2: of the greatest window the length is nothing modulo 65536.
func TestGreatestWindow(t *testing.T) {
	text := sample(3*api.MaxFile+11, 6)
	w, _ := New(api.MaxFile)
	for i, c := range text {
		sum := w.Push(c)
		if i%20011 == 0 || i == len(text)-1 {
			hold(t, w, api.MaxFile, text[:i+1])
			if sum != w.Sum() {
				t.Fatalf("Push %d is not the sum", i)
			}
		}
	}
	if len(w.room) > 2*api.MaxFile {
		t.Errorf("a window of %d keeps %d bytes", api.MaxFile, len(w.room))
	}
}

// P4.2: a window that is made empty begins anew.
func TestClear(t *testing.T) {
	for _, before := range []int{0, 1, 4, 5, 6, 9, 10, 11, 27} {
		w, _ := New(5)
		for _, c := range sample(before, 1) {
			w.Push(c)
		}
		w.Clear()
		hold(t, w, 5, nil)
		text := sample(30, 2)
		for i, c := range text {
			w.Push(c)
			hold(t, w, 5, text[:i+1])
		}
	}
}

// What Bytes answers is new memory.
func TestBytesIsNew(t *testing.T) {
	w, _ := New(4)
	for _, c := range []byte("abcdef") {
		w.Push(c)
	}
	got := w.Bytes()
	clear(got[:cap(got)])
	hold(t, w, 4, []byte("cdef"))
	got = w.Bytes()
	w.Push('g')
	w.Clear()
	w.Push('x')
	if string(got) != "cdef" {
		t.Errorf("what was answered changed: %q", got)
	}
}

// A nil window, and one that New did not make.
func TestNilWindow(t *testing.T) {
	for _, w := range []*Window{nil, {}} {
		w.Clear()
		if w.Push('a') != 0 || w.Sum() != 0 || w.Len() != 0 || len(w.Bytes()) != 0 {
			t.Error("a window of no size holds something")
		}
		if w == nil && w.Full() {
			t.Error("a nil window is full")
		}
	}
}

// Pushes of the greatest window are cheap: it is not moved with each of them.
func BenchmarkPush(b *testing.B) {
	w, _ := New(api.MaxFile)
	for i := range b.N {
		w.Push(byte(i))
	}
}
