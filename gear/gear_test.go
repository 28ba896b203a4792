package gear

import (
	"bytes"
	"math"
	"math/bits"
	"slices"
	"strconv"
	"strings"
	"testing"

	"remora/api"
)

// chapter: the numbers T0 to T15, as they are written there.
const chapter = "243F6A8885A308D3, 13198A2E03707344, A4093822299F31D0, 082EFA98EC4E6C89, 452821E638D01377, BE5466CF34E90C6C, C0AC29B7C97C50DD, 3F84D5B5B5470917, 9216D5D98979FB1B, D1310BA698DFB5AC, 2FFD72DBD01ADFB7, B8E1AFED6A267E96, BA7C9045F12C7F99, 24A19947B3916CF7, 0801F2E2858EFC16, 636920D871574E69"

// plainTable: the numbers of all bytes, out of the chapter's digits.
func plainTable(t *testing.T) [256]uint64 {
	var straight, changed [16]uint64
	for i, digits := range strings.Split(chapter, ", ") {
		var err1, err2 error
		straight[i], err1 = strconv.ParseUint(digits, 16, 64)
		changed[i], err2 = strconv.ParseUint(digits[8:]+digits[:8], 16, 64)
		if err1 != nil || err2 != nil {
			t.Fatal(err1, err2)
		}
	}
	var out [256]uint64
	for c := range out {
		out[c] = straight[c%16] ^ changed[c/16]
	}
	return out
}

// plainSum: the gear sum of a text.
func plainSum(table [256]uint64, b []byte) uint64 {
	sum := uint64(0)
	for _, c := range b {
		sum = sum + sum + table[c]
	}
	return sum
}

// plainCuts: where pieces end; each sum is reckoned anew from the piece's beginning.
func plainCuts(table [256]uint64, b []byte, p Params) []int {
	var out []int
	from := 0
	for to := 1; to <= len(b); to++ {
		size := to - from
		zeros := size >= p.Least && bits.LeadingZeros64(plainSum(table, b[from:to])) >= p.Bits
		if zeros || size == p.Most || to == len(b) {
			out = append(out, to)
			from = to
		}
	}
	return out
}

// dice: numbers that look like chance.
type dice uint32

func (d *dice) below(n int) int {
	*d = *d*1664525 + 1013904223
	return int(*d>>8) % n
}

// text: so many bytes, of so many kinds.
func (d *dice) text(n, kinds int) []byte {
	out := make([]byte, n)
	for i := range out {
		out[i] = byte(d.below(kinds))
	}
	return out
}

// params: some that may be.
func params() []Params {
	return []Params{
		{1, 1, 1}, {1, 2, 1}, {1, 65536, 1}, {1, 65536, 16}, {1, 300, 4}, {4, 4, 16}, {7, 8, 1}, {10, 40, 3},
		{63, 70, 1}, {64, 70, 1}, {65, 70, 2}, {100, 400, 5}, {100, 400, 16}, {200, 65536, 6}, {65536, 65536, 8},
	}
}

// texts: of many kinds and lengths.
func texts() [][]byte {
	d := dice(11)
	out := [][]byte{nil, {0}, {255}, []byte("abcdefghij"), make([]byte, 1000), bytes.Repeat([]byte("xyz"), 333)}
	for n := range 12 {
		out = append(out, d.text(n, 256), d.text(50+n, 2), d.text(10*n*n, 256))
	}
	return append(out, d.text(1500, 3), d.text(2000, 256))
}

// cutsOf: the cuts of what may be cut.
func cutsOf(t *testing.T, b []byte, p Params) []int {
	t.Helper()
	l, err := Cuts(b, p)
	if err != api.OK {
		t.Fatal(p, len(b), err)
	}
	return l
}

// P11.1: the numbers of all bytes, and the chapter's example.
func TestTable(t *testing.T) {
	if Table(0) != 0xA19C625BA19C625B {
		t.Errorf("of 0: %X", Table(0))
	}
	for c, want := range plainTable(t) {
		if got := Table(byte(c)); got != want {
			t.Errorf("of %d: %X, want %X", c, got, want)
		}
	}
	if Table(0x12) == Table(0x21) {
		t.Error("the lower and the higher four bits are one")
	}
}

// P11.1: which params may be, at their edges and beyond.
func TestCheck(t *testing.T) {
	for _, p := range params() {
		if err := Check(p); err != api.OK {
			t.Error(p, err)
		}
	}
	for _, p := range wrongParams() {
		if err := Check(p); err != api.ErrArg {
			t.Error(p, err)
		}
	}
}

func wrongParams() []Params {
	return []Params{
		{}, {0, 4, 4}, {-1, 4, 4}, {5, 4, 4}, {1, 0, 4}, {1, 65537, 4}, {65537, 65537, 4}, {1, math.MaxInt, 4},
		{math.MinInt, 4, 4}, {math.MaxInt, math.MinInt, 4}, {-3, -2, 4}, {1, 4, 0}, {1, 4, 17}, {1, 4, -1}, {1, 4, 64}, {1, 4, math.MinInt}, {1, 4, math.MaxInt},
	}
}

// P11.2, P11.3: what may not be is not cut; of a text that is too long as well, that is told first.
func TestRefused(t *testing.T) {
	long := make([]byte, api.MaxFile+1)
	for _, p := range wrongParams() {
		for _, b := range [][]byte{nil, []byte("abc"), long} {
			if n := Next(b, p); n != 0 {
				t.Error(p, len(b), n)
			}
			if l, err := Cuts(b, p); l != nil || err != api.ErrArg {
				t.Error(p, len(b), l, err)
			}
			if l, err := Pieces(b, p); l != nil || err != api.ErrArg {
				t.Error(p, len(b), len(l), err)
			}
		}
	}
	for _, p := range params() {
		if l, err := Cuts(long, p); l != nil || err != api.ErrBig {
			t.Error(p, len(l), err)
		}
		if l, err := Pieces(long, p); l != nil || err != api.ErrBig {
			t.Error(p, len(l), err)
		}
	}
}

// P11.3: the chapter's example, and rows by hand.
func TestRows(t *testing.T) {
	abc := []byte("abcdefghij")
	rows := []struct {
		b    []byte
		p    Params
		want []int
	}{
		{abc, Params{4, 4, 16}, []int{4, 8, 10}},
		{abc, Params{1, 1, 16}, []int{1, 2, 3, 4, 5, 6, 7, 8, 9, 10}},
		{abc, Params{10, 10, 1}, []int{10}},
		{abc, Params{11, 11, 1}, []int{10}},
		{abc[:8], Params{4, 4, 16}, []int{4, 8}},
		{nil, Params{4, 4, 16}, nil},
		{[]byte{}, Params{1, 9, 1}, nil},
		// The number of the byte 0x11 begins with 13198A2E xored with 03707344, that is 1069F96A: three bits are 0, the fourth is not.
		{[]byte{0x11, 0x11}, Params{1, 9, 3}, []int{1, 2}},
		{[]byte{0x11, 0x11}, Params{1, 9, 4}, []int{2}},
		{[]byte{0x11, 0x11}, Params{2, 9, 3}, []int{2}},
	}
	for i, r := range rows {
		if got := cutsOf(t, r.b, r.p); !slices.Equal(got, r.want) {
			t.Error(i, got, r.want)
		}
	}
}

// P11.2, P11.3: cuts and pieces are what the chapter's words make them.
func TestAsSaid(t *testing.T) {
	table := plainTable(t)
	early, most := 0, 0
	for _, b := range texts() {
		for _, p := range params() {
			want := plainCuts(table, b, p)
			got := cutsOf(t, b, p)
			if !slices.Equal(got, want) {
				t.Fatal(p, len(b), got, want)
			}
			first := 0
			if len(want) > 0 {
				first = want[0]
			}
			if n := Next(b, p); n != first {
				t.Error(p, len(b), n, first)
			}
			from := 0
			for _, to := range got {
				if to-from == p.Most {
					most++
				} else if to < len(b) {
					early++
				}
				from = to
			}
		}
	}
	if early < 1000 || most < 1000 {
		t.Error("too few cuts by bits, or by Most:", early, most)
	}
}

// P11.2: a text of any length has a first piece.
func TestNextOfLongText(t *testing.T) {
	d := dice(5)
	b := d.text(3*api.MaxFile, 256)
	for _, p := range params() {
		n := Next(b, p)
		if n < p.Least || n > p.Most || n != Next(b[:api.MaxFile], p) {
			t.Error(p, n)
		}
	}
	if n := Next(b, Params{api.MaxFile, api.MaxFile, 1}); n != api.MaxFile {
		t.Error(n)
	}
}

// P11.3, P11.4: the longest text that is cut; its pieces are the text, and of a length that may be.
func TestLongest(t *testing.T) {
	d := dice(6)
	b := d.text(api.MaxFile, 256)
	for _, p := range params() {
		if len(checkPieces(t, b, p)) == 0 {
			t.Error(p)
		}
	}
}

// P11.4: all of it.
func TestAllOfIt(t *testing.T) {
	for _, b := range texts() {
		for _, p := range params() {
			checkPieces(t, b, p)
		}
	}
}

// checkPieces: the pieces, held against the text and against its cuts.
func checkPieces(t *testing.T, b []byte, p Params) [][]byte {
	t.Helper()
	l, err := Pieces(b, p)
	if err != api.OK {
		t.Fatal(p, len(b), err)
	}
	if !bytes.Equal(bytes.Join(l, nil), b) {
		t.Error("not the text:", p, len(b))
	}
	var ends []int
	at := 0
	for i, piece := range l {
		at += len(piece)
		ends = append(ends, at)
		if len(piece) == 0 || len(piece) > p.Most || len(piece) < p.Least && i+1 < len(l) {
			t.Error("a length that may not be:", p, i, len(piece))
		}
	}
	if !slices.Equal(ends, cutsOf(t, b, p)) {
		t.Error("not the cuts:", p, len(b))
	}
	return l
}

// P11.5: from any cut on, a text is cut as the rest alone.
func TestSameBehind(t *testing.T) {
	for _, b := range texts() {
		for _, p := range params() {
			cuts := cutsOf(t, b, p)
			for i, at := range cuts {
				if len(cuts) > 50 && i%17 > 0 {
					continue
				}
				if !slices.Equal(moved(cutsOf(t, b[at:], p), at), cuts[i+1:]) {
					t.Fatal(p, len(b), at)
				}
			}
		}
	}
}

// moved: cuts of a text that begins so much later.
func moved(l []int, by int) []int {
	out := make([]int, len(l))
	for i := range l {
		out[i] = l[i] + by
	}
	return out
}

// P11.5: two texts that end alike are cut the same, once both were cut at one place of that end.
func TestEndAlike(t *testing.T) {
	d := dice(7)
	p := Params{20, 4000, 6}
	end := d.text(5000, 256)
	met := 0
	for range 20 {
		ahead := d.text(1+d.below(600), 256)
		both := cutsOf(t, slices.Concat(ahead, end), p)
		alone := moved(cutsOf(t, end, p), len(ahead))
		i := slices.IndexFunc(both, func(at int) bool { return slices.Contains(alone, at) })
		at := both[i]
		j := slices.Index(alone, at)
		if !slices.Equal(both[i:], alone[j:]) {
			t.Error(len(ahead), at)
		}
		if at < len(ahead)+2500 {
			met++
		}
	}
	if met < 15 {
		t.Error("the cuts meet late:", met)
	}
}

// zeroAt: is the highest bit of the gear sum of b 0? (Asked by where a piece ends.)
func zeroAt(b []byte) bool {
	return Next(append(slices.Clone(b), 'x'), Params{len(b), len(b) + 1, 1}) == len(b)
}

// P11.6: the gear sum hangs on the last 64 bytes, and on all of them.
func TestLast64(t *testing.T) {
	d := dice(8)
	yes, other := 0, 0
	for range 300 {
		last := d.text(64, 256)
		want := zeroAt(last)
		if want {
			yes++
		}
		for _, n := range []int{1, 2, 64, 500} {
			if zeroAt(append(d.text(n, 256), last...)) != want {
				t.Error("hangs on what is ahead of the last 64:", n)
			}
		}
		last[0] ^= 1 // of the first of the 64 bytes only the lowest bit of its number is left
		if zeroAt(last) != want {
			other++
		}
	}
	if yes < 100 || yes > 200 || other < 50 {
		t.Error("too few of one kind:", yes, other)
	}
}

// What is handed in is neither changed nor shared, and no two pieces share memory.
func TestMemory(t *testing.T) {
	d := dice(9)
	whole := d.text(1100, 256)
	b := whole[:1000]
	was := slices.Clone(whole)
	p := Params{5, 50, 3}
	l, _ := Pieces(b, p)
	again, _ := Pieces(b, p)
	for _, piece := range l {
		piece = piece[:cap(piece)]
		for i := range piece {
			piece[i] ^= 255
		}
	}
	if !bytes.Equal(whole, was) {
		t.Error("the text was changed")
	}
	if !bytes.Equal(bytes.Join(again, nil), b) {
		t.Error("two answers share memory")
	}
	l = again
	_ = append(l[0], 1, 2, 3)
	if !bytes.Equal(bytes.Join(l, nil), b) {
		t.Error("two pieces share memory")
	}
	clear(b)
	if !bytes.Equal(bytes.Join(l, nil), was[:1000]) {
		t.Error("a piece shares the text's memory")
	}
}
