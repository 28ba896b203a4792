package index

import (
	"math"
	"slices"
	"strings"
	"testing"

	"remora/api"
	"remora/sig"
)

// sample: so many bytes that look like chance, other ones for each seed.
func sample(many int, seed uint32) []byte {
	out := make([]byte, many)
	for i := range out {
		seed = seed*1664525 + 1013904223
		out[i] = byte(seed >> 24)
	}
	return out
}

// made: a signature of blocks of 16 bytes (the last one of last bytes) with these rolling sums; strong sums are alike where i modulo kinds is.
func made(last, kinds int, weaks ...uint32) api.Sig {
	s := api.Sig{Size: 16*(len(weaks)-1) + last, Block: 16, Strength: 2}
	for i, weak := range weaks {
		s.Marks = append(s.Marks, api.Mark{Weak: weak, Strong: strings.Repeat(string(rune('a'+i%kinds)), 2)})
	}
	return s
}

// chance: so many rolling sums; the smaller spread is, the more of them are alike.
func chance(many int, spread uint32, seed uint32) []uint32 {
	out := make([]uint32, many)
	for i := range out {
		seed = seed*1664525 + 1013904223
		out[i] = (seed >> 8) % spread * 0x9E3779B1
	}
	return out
}

// of: the signature of a text.
func of(t *testing.T, text []byte, block, strength int) api.Sig {
	s, err := sig.Of(text, block, strength)
	if err != api.OK {
		t.Fatalf("the signature of %d bytes: %d", len(text), err)
	}
	return s
}

// all: signatures that may be, of texts and of none, with few and with many blocks that are alike.
func all(t *testing.T) map[string]api.Sig {
	return map[string]api.Sig{
		"no blocks":              {Size: 0, Block: 16, Strength: 1},
		"one byte":               of(t, []byte("x"), 16, 1),
		"one block":              of(t, sample(16, 1), 16, 32),
		"three alike":            of(t, make([]byte, 48), 16, 4),
		"three alike, and a bit": of(t, make([]byte, 50), 16, 4),
		"a text":                 of(t, sample(1000, 5), 17, 3),
		"a great text":           of(t, sample(20000, 6), 16, 8),
		"sums all 0":             made(16, 1, make([]uint32, 9)...),
		"sums of one head":       made(3, 2, 0x00000000, 0x00010001, 0x00020002, 0xFFFFFFFF, 0x00000000),
		"greatest sums":          made(16, 3, math.MaxUint32, 0xFFFF0000, 0x0000FFFF, 1<<31, math.MaxUint32-1),
		"few sums":               made(16, 3, chance(100, 7, 1)...),
		"some sums":              made(5, 2, chance(64, 40, 2)...),
		"many sums":              made(1, 5, chance(129, 1<<20, 3)...),
	}
}

// index: the index of a signature that may be.
func index(t *testing.T, s api.Sig) *Index {
	x, err := New(s)
	if err != api.OK || x == nil {
		t.Fatalf("New: %v, %d", x, err)
	}
	return x
}

// plainFind: the blocks of a rolling sum, one by one.
func plainFind(s api.Sig, weak uint32) []int {
	var out []int
	for i, mark := range s.Marks {
		if mark.Weak == weak {
			out = append(out, i)
		}
	}
	return out
}

// plainPick: the block that is to be picked, as the document's words have it.
func plainPick(s api.Sig, weak uint32, strong string, n, want int) (int, bool) {
	var fit []int
	for _, i := range plainFind(s, weak) {
		if s.Marks[i].Strong == strong && min(s.Block, s.Size-i*s.Block) == n {
			fit = append(fit, i)
		}
	}
	switch {
	case len(fit) == 0:
		return 0, false
	case slices.Contains(fit, want):
		return want, true
	}
	return fit[0], true
}

// plainLoads: how many heads have so many blocks, as the document's words have it.
func plainLoads(s api.Sig) []int {
	heads := 1
	for heads < len(s.Marks) {
		heads += heads
	}
	at := map[uint32]int{}
	for _, mark := range s.Marks {
		at[(mark.Weak^mark.Weak/65536)%uint32(heads)]++
	}
	most := 0
	for _, many := range at {
		most = max(most, many)
	}
	out := make([]int, most+1)
	for head := range heads {
		out[at[uint32(head)]]++
	}
	return out
}

// P7.1: all blocks with the sum, and no others, rising.
func TestFind(t *testing.T) {
	for name, s := range all(t) {
		x := index(t, s)
		asked := []uint32{0, 1, 65536, 65537, 0x00030003, math.MaxUint32, 0xFFFF0000}
		for _, mark := range s.Marks {
			// Of the same head, and near by.
			asked = append(asked, mark.Weak, mark.Weak^0x00010001, mark.Weak^0x80008000, mark.Weak+1)
		}
		for _, weak := range asked {
			if got, want := x.Find(weak), plainFind(s, weak); !slices.Equal(got, want) {
				t.Errorf("%s: Find(%08x) = %v, want %v", name, weak, got, want)
			}
		}
		for i, mark := range s.Marks {
			if !slices.Contains(x.Find(mark.Weak), i) {
				t.Errorf("%s: the block %d is not found by its sum", name, i)
			}
		}
	}
}

// Pick: each thing that is asked for counts.
func TestPick(t *testing.T) {
	for name, s := range all(t) {
		x := index(t, s)
		wants := []int{math.MinInt, -1, 0, 1, 2, 3, len(s.Marks) - 1, len(s.Marks), len(s.Marks) + 1, math.MaxInt}
		sizes := []int{math.MinInt, -1, 0, 1, 3, 5, s.Block - 1, s.Block, s.Block + 1, math.MaxInt}
		for i, mark := range s.Marks[:min(len(s.Marks), 40)] {
			strongs := []string{mark.Strong, "", mark.Strong[1:], mark.Strong + "a", "aa", "bb", "cc"}
			for _, weak := range []uint32{mark.Weak, mark.Weak ^ 0x00010001, mark.Weak + 1} {
				for _, strong := range strongs {
					for _, n := range sizes {
						for _, want := range append(wants, i) {
							got, ok := x.Pick(weak, strong, n, want)
							if k, there := plainPick(s, weak, strong, n, want); got != k || ok != there {
								t.Fatalf("%s: Pick(%08x, %q, %d, %d) = %d, %v, want %d, %v", name, weak, strong, n, want, got, ok, k, there)
							}
						}
					}
				}
			}
		}
	}
	if k, ok := index(t, api.Sig{Size: 0, Block: 16, Strength: 1}).Pick(0, "", 0, 0); k != 0 || ok {
		t.Errorf("Pick of no blocks: %d, %v", k, ok)
	}
}

// Pick: a last block that is shorter is told apart by its length, though its sums are those of others.
func TestPickByLength(t *testing.T) {
	x := index(t, made(5, 1, 7, 7, 7))
	rows := []struct {
		n, want, got int
		ok           bool
	}{
		{16, 0, 0, true}, {16, 1, 1, true}, {16, 2, 0, true}, {16, 3, 0, true}, {16, -1, 0, true},
		{5, 0, 2, true}, {5, 2, 2, true}, {5, 9, 2, true},
		{4, 2, 0, false}, {6, 0, 0, false}, {0, 0, 0, false}, {32, 0, 0, false},
	}
	for _, r := range rows {
		if got, ok := x.Pick(7, "aa", r.n, r.want); got != r.got || ok != r.ok {
			t.Errorf("Pick of %d bytes, want %d: %d, %v", r.n, r.want, got, ok)
		}
	}
}

// Len, and P7.2.
func TestLoads(t *testing.T) {
	for name, s := range all(t) {
		x := index(t, s)
		if x.Len() != len(s.Marks) {
			t.Errorf("%s: Len() = %d, want %d", name, x.Len(), len(s.Marks))
		}
		loads := x.Loads()
		if !slices.Equal(loads, plainLoads(s)) {
			t.Errorf("%s: Loads() = %v, want %v", name, loads, plainLoads(s))
		}
		heads, blocks := 0, 0
		for load, many := range loads {
			heads += many
			blocks += load * many
		}
		if heads < max(len(s.Marks), 1) || heads/2 >= max(len(s.Marks), 1) || heads&(heads-1) != 0 || blocks != len(s.Marks) {
			t.Errorf("%s: %d heads and %d blocks of %d", name, heads, blocks, len(s.Marks))
		}
	}
}

// How many heads there are, at the edges.
func TestHeads(t *testing.T) {
	rows := []struct{ blocks, heads int }{{1, 1}, {2, 2}, {3, 4}, {4, 4}, {5, 8}, {8, 8}, {9, 16}, {1024, 1024}, {1025, 2048}, {8192, 8192}}
	for _, r := range rows {
		heads := 0
		for _, many := range index(t, made(16, 1, make([]uint32, r.blocks)...)).Loads() {
			heads += many
		}
		if heads != r.heads {
			t.Errorf("%d heads of %d blocks, want %d", heads, r.blocks, r.heads)
		}
	}
	if loads := index(t, api.Sig{Size: 0, Block: 16, Strength: 1}).Loads(); !slices.Equal(loads, []int{1}) {
		t.Errorf("Loads of no blocks: %v", loads)
	}
	// Four heads: 0 exclusive or 1, 1 exclusive or 0, 3 exclusive or 3, 2 exclusive or 1.
	if loads := index(t, made(16, 1, 0x00010000, 0x00000001, 0x00030003, 0x00010002)).Loads(); !slices.Equal(loads, []int{1, 2, 1}) {
		t.Errorf("Loads by both halves: %v", loads)
	}
}

// The chapter's examples.
func TestExamples(t *testing.T) {
	s := of(t, make([]byte, 48), 16, 4)
	x := index(t, s)
	weak, strong := s.Marks[0].Weak, s.Marks[0].Strong
	if got := x.Find(weak); !slices.Equal(got, []int{0, 1, 2}) {
		t.Errorf("Find: %v", got)
	}
	if k, ok := x.Pick(weak, strong, 16, 1); k != 1 || !ok {
		t.Errorf("Pick with want 1: %d, %v", k, ok)
	}
	if k, ok := x.Pick(weak, strong, 16, 5); k != 0 || !ok {
		t.Errorf("Pick with want 5: %d, %v", k, ok)
	}
	if got := x.Loads(); !slices.Equal(got, []int{3, 0, 0, 1}) {
		t.Errorf("Loads: %v", got)
	}
}

// New has sig.Check's errors.
func TestNewRefuses(t *testing.T) {
	odd := made(16, 1, 1, 2, 3)
	odd.Marks[2].Strong = "a"
	few := made(16, 1, 1, 2, 3)
	few.Marks = few.Marks[:2]
	rows := []struct {
		name string
		s    api.Sig
		want api.Errno
	}{
		{"zero", api.Sig{}, api.ErrArg},
		{"strength 0", api.Sig{Size: 0, Block: 16}, api.ErrArg},
		{"strength 33", api.Sig{Size: 0, Block: 16, Strength: 33}, api.ErrArg},
		{"size -1", api.Sig{Size: -1, Block: 16, Strength: 1}, api.ErrArg},
		{"size above the most", api.Sig{Size: api.MaxBasis + 1, Block: 16, Strength: 1}, api.ErrArg},
		{"block 15", api.Sig{Size: 0, Block: 15, Strength: 1}, api.ErrArg},
		{"block above the most", api.Sig{Size: 0, Block: api.MaxBlock + 1, Strength: 1}, api.ErrArg},
		{"block 15, and no marks", api.Sig{Size: 40, Block: 15, Strength: 1}, api.ErrArg},
		{"no marks", api.Sig{Size: 1, Block: 16, Strength: 1}, api.ErrForm},
		{"a mark too few", few, api.ErrForm},
		{"a mark too many", api.Sig{Size: 0, Block: 16, Strength: 1, Marks: []api.Mark{{Strong: "a"}}}, api.ErrForm},
		{"a strong that is too short", odd, api.ErrForm},
	}
	for _, r := range rows {
		if x, err := New(r.s); x != nil || err != r.want {
			t.Errorf("New, %s: %v, %d, want %d", r.name, x, err, r.want)
		}
	}
}

// A nil index has nothing; one that New did not make does not panic.
func TestNil(t *testing.T) {
	var none *Index
	if k, ok := none.Pick(0, "", 0, 0); k != 0 || ok {
		t.Errorf("Pick of nil: %d, %v", k, ok)
	}
	if len(none.Find(0)) != 0 || none.Len() != 0 || len(none.Loads()) != 0 {
		t.Errorf("of nil: %v, %d, %v", none.Find(0), none.Len(), none.Loads())
	}
	zero := new(Index)
	zero.Find(0)
	zero.Pick(0, "", 0, 0)
	zero.Len()
	zero.Loads()
}

// What is handed in is neither changed nor kept, and an answer is new memory.
func TestNewMemory(t *testing.T) {
	weaks := []uint32{1, 1, 2, 1, 3, 0x00010000}
	s := made(16, 1, weaks...)
	was := made(16, 1, weaks...)
	x := index(t, s)
	if !sig.Same(s, was) {
		t.Error("New changed what was handed in")
	}
	clear(s.Marks)
	for range 2 {
		for _, weak := range weaks {
			got := x.Find(weak)
			if !slices.Equal(got, plainFind(was, weak)) {
				t.Fatalf("Find(%d) = %v", weak, got)
			}
			for i := range got[:cap(got)] {
				got[:cap(got)][i] = 99
			}
			_ = append(got, 99)
		}
		loads := x.Loads()
		if !slices.Equal(loads, plainLoads(was)) {
			t.Fatalf("Loads() = %v", loads)
		}
		clear(loads[:cap(loads)])
	}
	if k, ok := x.Pick(1, "aa", 16, 3); k != 3 || !ok {
		t.Errorf("Pick of what was cleared behind New: %d, %v", k, ok)
	}
}
