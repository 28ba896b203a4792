package sha

import (
	"bytes"
	"crypto/sha256"
	"encoding/hex"
	"math"
	"strings"
	"testing"

	"remora/api"
)

const (
	ofABC     = "ba7816bf8f01cfea414140de5dae2223b00361a396177a9cb410ff61f20015ad"
	ofNothing = "e3b0c44298fc1c149afbf4c8996fb92427ae41e4649b934ca495991b7852b855"
)

// plain: the sum of a text, as another program has it.
func plain(b []byte) string {
	sum := sha256.Sum256(b)
	return string(sum[:])
}

// sample: so many bytes that look like chance, other ones for each seed.
func sample(many int, seed uint32) []byte {
	out := make([]byte, many)
	for i := range out {
		seed = seed*1664525 + 1013904223
		out[i] = byte(seed >> 24)
	}
	return out
}

// P3.1, and the chapter's examples.
func TestSum(t *testing.T) {
	rows := []struct{ text, want string }{
		{"abc", ofABC},
		{"", ofNothing},
		{"abcdbcdecdefdefgefghfghighijhijkijkljklmklmnlmnomnopnopq", "248d6a61d20638b8e5c026930c3e6039a33ce45964ff2167f6ecedd419db06c1"},
		{strings.Repeat("a", 1000000), "cdc76e5c9914fb9281a1c7e284d73e67f1809a48a497200e046d39ccc7112cd0"},
	}
	for _, r := range rows {
		if got := Text(Sum([]byte(r.text))); got != r.want {
			t.Errorf("Sum of %d bytes: %s, not %s", len(r.text), got, r.want)
		}
	}
	if Sum(nil) != Sum([]byte{}) {
		t.Error("Sum: nil is not as empty")
	}
}

// P3.1: every way in which a text's length stands to the blocks.
func TestSumOfEachLength(t *testing.T) {
	for n := range 4*blockSize + 2 {
		for _, b := range [][]byte{sample(n, uint32(n)), bytes.Repeat([]byte{0}, n), bytes.Repeat([]byte{255}, n)} {
			if Sum(b) != plain(b) {
				t.Fatalf("Sum of %d bytes: %s, not %s", n, Text(Sum(b)), Text(plain(b)))
			}
		}
	}
	for _, n := range []int{api.MaxFile - 9, api.MaxFile, 1<<21 + 55} {
		if b := sample(n, 7); Sum(b) != plain(b) {
			t.Fatalf("Sum of %d bytes", n)
		}
	}
}

// P3.1.
func TestCut(t *testing.T) {
	for n := range 33 {
		if got, err := Cut([]byte("abc"), n); got != plain([]byte("abc"))[:n] || err != api.OK {
			t.Errorf("Cut %d: %q, %d", n, got, err)
		}
	}
	for _, n := range []int{-1, 33, 64, math.MaxInt, math.MinInt} {
		if got, err := Cut([]byte("abc"), n); got != "" || err != api.ErrRange {
			t.Errorf("Cut %d: %q, %d", n, got, err)
		}
	}
}

// P3.2.
func TestText(t *testing.T) {
	var all []byte
	for c := range 256 {
		all = append(all, byte(c))
	}
	for n := range len(all) + 1 {
		if got, want := Text(string(all[:n])), hex.EncodeToString(all[:n]); got != want {
			t.Fatalf("Text of %d bytes: %s, not %s", n, got, want)
		}
	}
	if got := Text("\x0f\xa0\xff\x00"); got != "0fa0ff00" {
		t.Error("Text:", got)
	}
}

// P3.2: what Parse refuses.
func TestParseRefuses(t *testing.T) {
	refused := []string{
		"", "b", "ba", ofABC[:62], ofABC[:63], ofABC + "0", ofABC + "00", ofABC + ofABC,
		strings.ToUpper(ofABC), " " + ofABC[1:], ofABC[:63] + "\n", "0x" + ofABC[2:], "-1" + ofABC[2:],
		ofABC[:62] + "é", strings.Repeat("\x00", 64), strings.Repeat("\xff", 64),
	}
	for _, s := range refused {
		if got, err := Parse(s); got != "" || err != api.ErrForm {
			t.Errorf("Parse %q: %q, %d", s, got, err)
		}
	}
}

// P3.2, P3.5: each byte at each place of a digit.
func TestParseOfEachByte(t *testing.T) {
	for c := range 256 {
		digit := strings.IndexByte("0123456789abcdef", byte(c)) >= 0
		for at := range 64 {
			s := []byte(ofABC)
			s[at] = byte(c)
			got, err := Parse(string(s))
			if digit && (err != api.OK || len(got) != 32 || Text(got) != string(s)) {
				t.Fatalf("Parse %q: %q, %d", s, got, err)
			}
			if !digit && (err != api.ErrForm || got != "") {
				t.Fatalf("Parse %q: %q, %d", s, got, err)
			}
		}
	}
}

// P3.5.
func TestThereAndBack(t *testing.T) {
	for seed := range uint32(100) {
		sum := string(sample(32, seed))
		if got, err := Parse(Text(sum)); got != sum || err != api.OK {
			t.Fatalf("Parse of Text of %q: %q, %d", sum, got, err)
		}
	}
	for _, n := range []int{0, 1, 16, 31, 33, 64} {
		if got, err := Parse(Text(string(sample(n, 3)))); got != "" || err != api.ErrForm {
			t.Errorf("Parse of Text of %d bytes: %q, %d", n, got, err)
		}
	}
}

// P3.3: a sum that is asked between goes on.
func TestState(t *testing.T) {
	s := New()
	var all []byte
	for i := range 300 {
		if s.Len() != len(all) || s.Sum() != plain(all) || s.Sum() != plain(all) {
			t.Fatalf("behind %d bytes: %d, %s", len(all), s.Len(), Text(s.Sum()))
		}
		piece := sample(i%7, uint32(i))
		s.Write(piece)
		all = append(all, piece...)
	}
	s.Write(nil)
	s.Write([]byte{})
	if s.Len() != len(all) || s.Sum() != plain(all) {
		t.Error("writing nothing changed the state")
	}
	if New().Len() != 0 || Text(New().Sum()) != ofNothing {
		t.Error("a new state is not of nothing")
	}
}

// P3.3: a nil state.
func TestNilState(t *testing.T) {
	var s *State
	s.Write([]byte("abc"))
	if s.Sum() != "" || s.Len() != 0 || s.Copy() != nil {
		t.Errorf("of nil: %q, %d, %v", s.Sum(), s.Len(), s.Copy())
	}
}

// P3.3: what is handed in is neither changed nor kept.
func TestWriteKeepsNothing(t *testing.T) {
	for _, n := range []int{1, 63, 64, 65, 200} {
		b, s := sample(n, 5), New()
		was := bytes.Clone(b)
		s.Write(b)
		if !bytes.Equal(b, was) {
			t.Fatal("Write changed what was written")
		}
		clear(b)
		if s.Sum() != plain(was) {
			t.Fatalf("Write kept what was written, %d bytes", n)
		}
	}
}

// P3.4: two pieces at every cut, three at many, and pieces of one length.
func TestPieces(t *testing.T) {
	b := sample(3*blockSize+5, 11)
	want := plain(b)
	for i := range len(b) + 1 {
		for j := i; j <= len(b); j += 13 {
			s := New()
			s.Write(b[:i])
			s.Write(b[i:j])
			s.Write(b[j:])
			if s.Sum() != want || s.Len() != len(b) {
				t.Fatalf("cut at %d and %d: %s", i, j, Text(s.Sum()))
			}
		}
	}
	for size := 1; size <= 130; size++ {
		s := New()
		for from := 0; from < len(b); from += size {
			s.Write(b[from:min(from+size, len(b))])
		}
		if s.Sum() != want {
			t.Fatalf("pieces of %d: %s", size, Text(s.Sum()))
		}
	}
}

// P3.3, P3.4: neither of two copies knows of the other one.
func TestCopy(t *testing.T) {
	for _, n := range []int{0, 1, 63, 64, 65, 127, 128} {
		head, one, other := sample(n, 1), sample(70, 2), sample(90, 3)
		s := New()
		s.Write(head)
		c := s.Copy()
		if c.Len() != n || c.Sum() != plain(head) {
			t.Fatalf("a copy behind %d bytes: %d, %s", n, c.Len(), Text(c.Sum()))
		}
		s.Write(one)
		if c.Len() != n || c.Sum() != plain(head) {
			t.Fatalf("a copy behind %d bytes knows what the first one was told", n)
		}
		c.Write(other)
		if s.Sum() != plain(append(bytes.Clone(head), one...)) || c.Sum() != plain(append(bytes.Clone(head), other...)) {
			t.Fatalf("copies behind %d bytes: %s, %s", n, Text(s.Sum()), Text(c.Sum()))
		}
	}
}
