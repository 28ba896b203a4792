package blocks

import (
	"bytes"
	"iter"
	"math"
	"testing"

	"remora/api"
)

// sample: so many bytes that look like chance, other ones for each seed.
func sample(many int, seed uint32) []byte {
	out := make([]byte, many)
	for i := range out {
		seed = seed*1664525 + 1013904223
		out[i] = byte(seed >> 24)
	}
	return out
}

// stretch is where a block begins, and where it ends.
type stretch struct{ from, to int }

// plain: the blocks of a size, as the document's words have them, one behind the other.
func plain(size, block int) []stretch {
	var out []stretch
	for from := 0; from < size; from += block {
		out = append(out, stretch{from, min(from+block, size)})
	}
	return out
}

// rightSizes and rightLengths: the ends of what is right, and what lies around whole blocks.
var (
	rightSizes   = []int{0, 1, 2, 15, 16, 17, 31, 32, 33, 40, 48, 255, 256, 257, 1000, 4095, 4096, 4097, 8192, api.MaxFile, api.MaxBasis - 1, api.MaxBasis}
	rightLengths = []int{api.MinBlock, 17, 31, 32, 100, 1024, api.MaxBlock - 1, api.MaxBlock}
)

// wrongPairs: sizes and lengths of which at least one is not right.
var wrongPairs = []struct{ size, block int }{
	{-1, 16}, {math.MinInt, 16}, {api.MaxBasis + 1, 16}, {api.MaxBasis + 1, api.MaxBlock}, {math.MaxInt, 16},
	{40, 15}, {40, 1}, {40, 0}, {40, -1}, {40, -16}, {40, math.MinInt}, {40, api.MaxBlock + 1}, {40, math.MaxInt},
	{0, 0}, {0, 15}, {-1, 0}, {math.MaxInt, math.MaxInt}, {math.MinInt, math.MinInt},
}

// P5.1.
func TestLength(t *testing.T) {
	rows := []struct{ size, want int }{
		{math.MinInt, 16}, {-5, 16}, {-1, 16}, {0, 16}, {1, 16}, {255, 16}, {256, 16}, {257, 32},
		{1024, 32}, {1025, 64}, {4096, 64}, {4097, 128}, {1 << 14, 128}, {1<<14 + 1, 256},
		{1 << 16, 256}, {1<<16 + 1, 512}, {api.MaxBasis, 512}, {1 << 18, 512}, {1<<18 + 1, 1024},
		{1 << 20, 1024}, {1<<20 + 1, 2048}, {1 << 22, 2048}, {1<<22 + 1, 4096},
		{1<<24 - 1, 4096}, {1 << 24, 4096}, {1<<24 + 1, 4096}, {1 << 40, 4096}, {math.MaxInt, 4096},
	}
	for _, r := range rows {
		if got := Length(r.size); got != r.want {
			t.Errorf("Length(%d) = %d, want %d", r.size, got, r.want)
		}
	}
}

// P5.2.
func TestRightAndCount(t *testing.T) {
	for _, size := range rightSizes {
		for _, block := range rightLengths {
			if !Right(size, block) {
				t.Errorf("Right(%d, %d) is false", size, block)
			}
			if got, want := Count(size, block), len(plain(size, block)); got != want {
				t.Errorf("Count(%d, %d) = %d, want %d", size, block, got, want)
			}
		}
	}
	for _, p := range wrongPairs {
		if Right(p.size, p.block) || Count(p.size, p.block) != 0 {
			t.Errorf("of %d, %d: %v, %d", p.size, p.block, Right(p.size, p.block), Count(p.size, p.block))
		}
	}
	if Count(40, 16) != 3 || Count(api.MaxBasis, api.MinBlock) != 8192 || Count(0, 16) != 0 {
		t.Error("Count of the examples")
	}
}

// P5.3: where each block lies.
func TestRange(t *testing.T) {
	for _, size := range rightSizes {
		for _, block := range rightLengths {
			all := plain(size, block)
			for i, want := range all {
				if from, to, ok := Range(size, block, i); from != want.from || to != want.to || !ok {
					t.Fatalf("Range(%d, %d, %d) = %d, %d, %v, want %v", size, block, i, from, to, ok, want)
				}
			}
			for _, i := range []int{-1, math.MinInt, len(all), len(all) + 1, math.MaxInt, math.MaxInt / block} {
				if from, to, ok := Range(size, block, i); from != 0 || to != 0 || ok {
					t.Fatalf("Range(%d, %d, %d) = %d, %d, %v", size, block, i, from, to, ok)
				}
			}
		}
	}
	if from, to, ok := Range(40, 16, 2); from != 32 || to != 40 || !ok {
		t.Errorf("Range(40, 16, 2) = %d, %d, %v", from, to, ok)
	}
}

// P5.3, P5.7: each place lies in the block that Which tells, and in no other one.
func TestWhich(t *testing.T) {
	for _, size := range []int{0, 1, 15, 16, 17, 40, 257, 8193} {
		for _, block := range rightLengths {
			all := plain(size, block)
			for off := range size {
				got, ok := Which(size, block, off)
				for i, s := range all {
					if lies := s.from <= off && off < s.to; !ok || lies != (i == got) {
						t.Fatalf("Which(%d, %d, %d) = %d, %v", size, block, off, got, ok)
					}
				}
			}
			for _, off := range []int{-1, -16, math.MinInt, size, size + 1, math.MaxInt} {
				if got, ok := Which(size, block, off); got != 0 || ok {
					t.Fatalf("Which(%d, %d, %d) = %d, %v", size, block, off, got, ok)
				}
			}
		}
	}
	if got, ok := Which(40, 16, 32); got != 2 || !ok {
		t.Errorf("Which(40, 16, 32) = %d, %v", got, ok)
	}
	if got, ok := Which(api.MaxBasis, 16, api.MaxBasis-1); got != 8191 || !ok {
		t.Errorf("Which of the last place = %d, %v", got, ok)
	}
}

// P5.3: of a size and a length that are not right there is nothing.
func TestNothingOfWrongPairs(t *testing.T) {
	for _, p := range wrongPairs {
		for _, n := range []int{0, 1, 16, -1} {
			if from, to, ok := Range(p.size, p.block, n); from != 0 || to != 0 || ok {
				t.Errorf("Range(%d, %d, %d) = %d, %d, %v", p.size, p.block, n, from, to, ok)
			}
			if i, ok := Which(p.size, p.block, n); i != 0 || ok {
				t.Errorf("Which(%d, %d, %d) = %d, %v", p.size, p.block, n, i, ok)
			}
		}
	}
}

// hold: are all these the blocks of text, and all of it?
func hold(t *testing.T, what string, all [][]byte, text []byte, block int) {
	t.Helper()
	places := plain(len(text), block)
	if len(all) != len(places) {
		t.Fatalf("%s, %d bytes by %d: %d blocks, want %d", what, len(text), block, len(all), len(places))
	}
	for i, s := range places {
		if !bytes.Equal(all[i], text[s.from:s.to]) {
			t.Fatalf("%s, %d bytes by %d: block %d is not the text's", what, len(text), block, i)
		}
	}
}

// gathered: all that is gone through, with numbers that rise from 0 on.
func gathered(t *testing.T, each iter.Seq2[int, []byte]) [][]byte {
	t.Helper()
	var out [][]byte
	for i, piece := range each {
		if i != len(out) {
			t.Fatalf("block %d came as number %d", len(out), i)
		}
		out = append(out, piece)
	}
	return out
}

// P5.4, P5.5: the blocks in order; what is gone through may be gone through again.
func TestCutAndEach(t *testing.T) {
	for _, size := range rightSizes {
		for _, block := range rightLengths {
			text := sample(size, uint32(size))
			all, err := Cut(text, block)
			if err != api.OK {
				t.Fatalf("Cut of %d bytes by %d: %d", size, block, err)
			}
			hold(t, "Cut", all, text, block)
			each := Each(text, block)
			hold(t, "Each", gathered(t, each), text, block)
			hold(t, "Each, once more", gathered(t, each), text, block)
		}
	}
	if all, err := Cut(nil, 16); len(all) != 0 || err != api.OK {
		t.Errorf("Cut of nil: %v, %d", all, err)
	}
}

// P5.4, P5.5: what Cut refuses, in the order of its errors; Each goes through nothing then.
func TestRefused(t *testing.T) {
	big := make([]byte, api.MaxBasis+1)
	rows := []struct {
		b     []byte
		block int
		want  api.Errno
	}{
		{[]byte("x"), 15, api.ErrArg}, {[]byte("x"), 0, api.ErrArg}, {[]byte("x"), -16, api.ErrArg},
		{[]byte("x"), math.MinInt, api.ErrArg}, {[]byte("x"), math.MaxInt, api.ErrArg},
		{[]byte("x"), api.MaxBlock + 1, api.ErrArg}, {nil, 15, api.ErrArg}, {nil, api.MaxBlock + 1, api.ErrArg},
		{big, 15, api.ErrArg}, {big, 0, api.ErrArg}, {big, api.MaxBlock + 1, api.ErrArg},
		{big, api.MinBlock, api.ErrBig}, {big, 1000, api.ErrBig}, {big, api.MaxBlock, api.ErrBig},
	}
	for _, r := range rows {
		if all, err := Cut(r.b, r.block); all != nil || err != r.want {
			t.Errorf("Cut of %d bytes by %d: %d blocks, %d, want %d", len(r.b), r.block, len(all), err, r.want)
		}
		for i := range Each(r.b, r.block) {
			t.Fatalf("Each of %d bytes by %d goes through block %d", len(r.b), r.block, i)
		}
	}
}

// P5.5: it stops where it is stopped, and begins anew.
func TestEachIsStopped(t *testing.T) {
	text := sample(100, 8)
	each := Each(text, 16)
	for stop := range 7 {
		asked := 0
		each(func(i int, piece []byte) bool {
			if i != asked || !bytes.Equal(piece, text[16*i:min(16*i+16, 100)]) {
				t.Fatalf("stopped at %d: block %d is %q", stop, i, piece)
			}
			asked++
			return i < stop
		})
		if asked != stop+1 {
			t.Errorf("stopped at %d: %d blocks came", stop, asked)
		}
	}
	for range each {
		break
	}
	hold(t, "Each behind a break", gathered(t, each), text, 16)
}

// P5.5: going through may be nested, and is nothing to the other one.
func TestEachWithinItself(t *testing.T) {
	text := sample(70, 2)
	each := Each(text, 16)
	for i := range each {
		hold(t, "within", gathered(t, each), text, 16)
		if i > 4 {
			t.Fatal("more blocks than there are:", i)
		}
	}
}

// P5.6: the blocks, one behind the other, are the text; all but the last one are as long as said.
func TestAllOfIt(t *testing.T) {
	for size := range 600 {
		text := sample(size, uint32(size))
		for _, block := range []int{16, 17, 32, 100, 599, api.MaxBlock} {
			all, _ := Cut(text, block)
			if !bytes.Equal(bytes.Join(all, nil), text) {
				t.Fatalf("%d bytes by %d: the blocks are not the text", size, block)
			}
			for i, piece := range all {
				last := i == len(all)-1
				if len(piece) < 1 || len(piece) > block || !last && len(piece) != block {
					t.Fatalf("%d bytes by %d: block %d has %d bytes", size, block, i, len(piece))
				}
			}
		}
	}
}

// P5.8: by Length there are no more blocks than a block has bytes.
func TestNoMoreBlocksThanBytes(t *testing.T) {
	for size := range api.MaxBasis + 1 {
		if block := Length(size); Count(size, block) > block {
			t.Fatalf("a size of %d has %d blocks of %d", size, Count(size, block), block)
		}
	}
	// Beyond what Count takes, by division.
	for shift := 17; shift <= 24; shift++ {
		for _, size := range []int{1<<shift - 1, 1 << shift, min(1<<shift+1, 1<<24)} {
			if block := Length(size); (size+block-1)/block > block {
				t.Errorf("a size of %d has more than %d blocks of %d", size, block, block)
			}
		}
	}
}

// What is handed in is neither changed nor kept, and each block is memory of its own.
func TestNewMemory(t *testing.T) {
	room := sample(140, 3)
	was := bytes.Clone(room)
	text := room[:100]
	all, _ := Cut(text, 16)
	each := Each(text, 16)
	if !bytes.Equal(room, was) {
		t.Fatal("what was handed in was changed")
	}
	clear(room)
	hold(t, "Cut of what was changed since", all, was[:100], 16)
	hold(t, "Each of what was changed since", gathered(t, each), was[:100], 16)
	for i := range all {
		others, _ := Cut(was[:100], 16)
		clear(others[i][:cap(others[i])])
		others[i] = was[16*i : min(16*i+16, 100)]
		hold(t, "Cut with one block made empty", others, was[:100], 16)
	}
	for _, piece := range each {
		clear(piece[:cap(piece)])
	}
	hold(t, "Each behind blocks that were made empty", gathered(t, each), was[:100], 16)
	changed := bytes.Clone(was)
	for _, piece := range Each(changed[:100], 16) {
		clear(piece[:cap(piece)])
	}
	if !bytes.Equal(changed, was) {
		t.Error("a block of Each is a piece of what was handed in")
	}
}
