package sig

import (
	"bytes"
	"crypto/sha256"
	"encoding/binary"
	"hash/crc32"
	"math"
	"slices"
	"strings"
	"testing"

	"remora/api"
)

// sample: so many bytes that look like chance, other ones for each seed.
func sample(many int, seed uint32) []byte {
	out := make([]byte, many)
	for i := range out {
		seed = seed*1664525 + 1013904223
		out[i] = byte(seed >> 24)
	}
	return out
}

// plainMark: both sums of a block, as the document's words have them.
func plainMark(piece []byte, strength int) api.Mark {
	a, b := 0, 0
	for i, c := range piece {
		a = (a + int(c) + 31) % 65536
		b = (b + (int(c)+31)*(len(piece)-i)) % 65536
	}
	sum := sha256.Sum256(piece)
	return api.Mark{Weak: uint32(a + 65536*b), Strong: string(sum[:strength])}
}

// plain: the signature of a text, as the document's words have it.
func plain(text []byte, block, strength int) api.Sig {
	s := api.Sig{Size: len(text), Block: block, Strength: strength}
	for from := 0; from < len(text); from += block {
		s.Marks = append(s.Marks, plainMark(text[from:min(from+block, len(text))], strength))
	}
	return s
}

// like: are two signatures the same, field by field?
func like(a, b api.Sig) bool {
	return a.Size == b.Size && a.Block == b.Block && a.Strength == b.Strength && slices.Equal(a.Marks, b.Marks)
}

// empty: is it the zero signature?
func empty(s api.Sig) bool {
	return like(s, api.Sig{})
}

// seal: parts with their sum behind them, as the document's words have it.
func seal(parts ...[]byte) []byte {
	body := bytes.Join(parts, nil)
	return binary.LittleEndian.AppendUint32(body, crc32.ChecksumIEEE(body))
}

// plainBytes: a signature that may be, as bytes, as the document's words have it.
func plainBytes(s api.Sig) []byte {
	var body []byte
	for _, n := range []int{s.Size, s.Block, s.Strength} {
		body = binary.AppendUvarint(body, uint64(n))
	}
	for _, m := range s.Marks {
		body = append(binary.LittleEndian.AppendUint32(body, m.Weak), m.Strong...)
	}
	return seal(body)
}

// marks: so many marks, each with a Strong of strength bytes.
func marks(many, strength int) []api.Mark {
	var out []api.Mark
	for i := range many {
		out = append(out, api.Mark{Weak: uint32(i) * 0x01030507, Strong: strings.Repeat(string(rune('a'+i%26)), strength)})
	}
	return out
}

// mayBe: signatures that may be, of texts and of none.
func mayBe() []api.Sig {
	out := []api.Sig{
		{Size: 0, Block: 16, Strength: 1},
		{Size: 0, Block: api.MaxBlock, Strength: api.MaxStrong, Marks: []api.Mark{}},
		{Size: 1, Block: 16, Strength: 1, Marks: []api.Mark{{Weak: math.MaxUint32, Strong: "\x00"}}},
		{Size: 16, Block: 16, Strength: 2, Marks: []api.Mark{{Weak: 0x04030201, Strong: "\xff\x80"}}},
		{Size: 17, Block: 16, Strength: 3, Marks: marks(2, 3)},
		{Size: api.MaxBasis, Block: api.MinBlock, Strength: api.MaxStrong, Marks: marks(8192, api.MaxStrong)},
		{Size: api.MaxBasis, Block: api.MaxBlock, Strength: 1, Marks: marks(32, 1)},
	}
	for _, size := range []int{1, 15, 16, 17, 40, 300, 5000} {
		for _, strength := range []int{1, 2, 16, 31, 32} {
			out = append(out, plain(sample(size, 7), 16, strength), plain(sample(size, 7), 100, strength))
		}
	}
	return out
}

// P6.1.
func TestOf(t *testing.T) {
	sizes := []int{0, 1, 15, 16, 17, 32, 40, 256, 257, 4096, 4097, api.MaxBasis - 1, api.MaxBasis}
	for _, size := range sizes {
		text := sample(size, uint32(size))
		for _, block := range []int{api.MinBlock, 17, 1000, api.MaxBlock} {
			for _, strength := range []int{1, 2, 31, api.MaxStrong} {
				got, err := Of(text, block, strength)
				if err != api.OK || !like(got, plain(text, block, strength)) {
					t.Fatalf("Of %d bytes by %d, strength %d: not as it is to be, %d", size, block, strength, err)
				}
			}
		}
	}
	if got, err := Of(nil, 16, 4); err != api.OK || !like(got, api.Sig{Size: 0, Block: 16, Strength: 4}) {
		t.Errorf("Of nil: %v, %d", got, err)
	}
}

// P6.1: a block length of 0 is that which goes with the size.
func TestOfWithoutLength(t *testing.T) {
	rows := []struct{ size, block int }{
		{0, 16}, {1, 16}, {256, 16}, {257, 32}, {1024, 32}, {1025, 64}, {api.MaxFile, 256}, {api.MaxFile + 1, 512}, {api.MaxBasis, 512},
	}
	for _, r := range rows {
		text := sample(r.size, 5)
		got, err := Of(text, 0, 8)
		if err != api.OK || !like(got, plain(text, r.block, 8)) {
			t.Errorf("Of %d bytes: blocks of %d, want %d; %d", r.size, got.Block, r.block, err)
		}
	}
}

// P6.1: what Of refuses, in the order of its errors.
func TestOfRefuses(t *testing.T) {
	text, big := sample(40, 1), make([]byte, api.MaxBasis+1)
	rows := []struct {
		b               []byte
		block, strength int
		want            api.Errno
	}{
		{text, 16, 0, api.ErrArg}, {text, 16, -1, api.ErrArg}, {text, 16, api.MaxStrong + 1, api.ErrArg},
		{text, 16, math.MinInt, api.ErrArg}, {text, 16, math.MaxInt, api.ErrArg},
		{text, 15, 2, api.ErrArg}, {text, 1, 2, api.ErrArg}, {text, -1, 2, api.ErrArg}, {text, -16, 2, api.ErrArg},
		{text, api.MaxBlock + 1, 2, api.ErrArg}, {text, math.MinInt, 2, api.ErrArg}, {text, math.MaxInt, 2, api.ErrArg},
		{text, 0, 0, api.ErrArg}, {text, 0, 33, api.ErrArg}, {nil, 15, 1, api.ErrArg}, {nil, 0, 0, api.ErrArg},
		{big, 15, 2, api.ErrArg}, {big, 16, 0, api.ErrArg}, {big, 0, 33, api.ErrArg},
		{big, 16, 2, api.ErrBig}, {big, 0, 2, api.ErrBig}, {big, api.MaxBlock, api.MaxStrong, api.ErrBig},
	}
	for _, r := range rows {
		if got, err := Of(r.b, r.block, r.strength); !empty(got) || err != r.want {
			t.Errorf("Of %d bytes by %d, strength %d: %d marks, %d, want %d", len(r.b), r.block, r.strength, len(got.Marks), err, r.want)
		}
	}
}

// wrong: signatures that may not be, and the error that Check has of each.
func wrong() map[string]struct {
	s    api.Sig
	want api.Errno
} {
	type row = struct {
		s    api.Sig
		want api.Errno
	}
	odd := func(at int, strong string) []api.Mark {
		out := marks(3, 2)
		out[at].Strong = strong
		return out
	}
	return map[string]row{
		"zero":                   {api.Sig{}, api.ErrArg},
		"strength 0":             {api.Sig{Size: 0, Block: 16, Strength: 0}, api.ErrArg},
		"strength 0, marks":      {api.Sig{Size: 40, Block: 16, Strength: 0, Marks: marks(3, 0)}, api.ErrArg},
		"strength -1":            {api.Sig{Size: 0, Block: 16, Strength: -1}, api.ErrArg},
		"strength 33":            {api.Sig{Size: 40, Block: 16, Strength: 33, Marks: marks(3, 33)}, api.ErrArg},
		"strength very great":    {api.Sig{Size: 0, Block: 16, Strength: math.MaxInt}, api.ErrArg},
		"size -1":                {api.Sig{Size: -1, Block: 16, Strength: 2}, api.ErrArg},
		"size above the most":    {api.Sig{Size: api.MaxBasis + 1, Block: 16, Strength: 2, Marks: marks(8193, 2)}, api.ErrArg},
		"size very great":        {api.Sig{Size: math.MaxInt, Block: 16, Strength: 2}, api.ErrArg},
		"block 0":                {api.Sig{Size: 0, Block: 0, Strength: 2}, api.ErrArg},
		"block 15":               {api.Sig{Size: 40, Block: 15, Strength: 2, Marks: marks(3, 2)}, api.ErrArg},
		"block -16":              {api.Sig{Size: 0, Block: -16, Strength: 2}, api.ErrArg},
		"block above the most":   {api.Sig{Size: 40, Block: api.MaxBlock + 1, Strength: 2, Marks: marks(1, 2)}, api.ErrArg},
		"both errors":            {api.Sig{Size: 40, Block: 15, Strength: 2, Marks: marks(1, 5)}, api.ErrArg},
		"a mark too few":         {api.Sig{Size: 40, Block: 16, Strength: 2, Marks: marks(2, 2)}, api.ErrForm},
		"a mark too many":        {api.Sig{Size: 40, Block: 16, Strength: 2, Marks: marks(4, 2)}, api.ErrForm},
		"no marks":               {api.Sig{Size: 1, Block: 16, Strength: 2}, api.ErrForm},
		"marks of no blocks":     {api.Sig{Size: 0, Block: 16, Strength: 2, Marks: marks(1, 2)}, api.ErrForm},
		"first strong too short": {api.Sig{Size: 40, Block: 16, Strength: 2, Marks: odd(0, "a")}, api.ErrForm},
		"one strong too long":    {api.Sig{Size: 40, Block: 16, Strength: 2, Marks: odd(1, "abc")}, api.ErrForm},
		"last strong empty":      {api.Sig{Size: 40, Block: 16, Strength: 2, Marks: odd(2, "")}, api.ErrForm},
		"all strong too long":    {api.Sig{Size: 40, Block: 16, Strength: 2, Marks: marks(3, 32)}, api.ErrForm},
	}
}

// P6.2: Check; P6.4: Bytes has Check's errors; P6.3: nothing fits what may not be.
func TestCheck(t *testing.T) {
	for i, s := range mayBe() {
		if err := Check(s); err != api.OK {
			t.Errorf("Check of signature %d: %d", i, err)
		}
	}
	for name, r := range wrong() {
		if err := Check(r.s); err != r.want {
			t.Errorf("Check, %s: %d, want %d", name, err, r.want)
		}
		if b, err := Bytes(r.s); b != nil || err != r.want {
			t.Errorf("Bytes, %s: %v, %d, want %d", name, b, err, r.want)
		}
		for i := range 3 {
			if Fits(r.s, i, nil) || Fits(r.s, i, sample(16, 1)) {
				t.Errorf("Fits, %s: something fits", name)
			}
		}
	}
}

// P6.2: each field counts, and each part of each mark; any two may be asked.
func TestSame(t *testing.T) {
	made := func() api.Sig { return api.Sig{Size: 40, Block: 16, Strength: 2, Marks: marks(3, 2)} }
	changes := map[string]func(*api.Sig){
		"size":            func(s *api.Sig) { s.Size++ },
		"block":           func(s *api.Sig) { s.Block++ },
		"strength":        func(s *api.Sig) { s.Strength++ },
		"first weak":      func(s *api.Sig) { s.Marks[0].Weak++ },
		"last weak":       func(s *api.Sig) { s.Marks[2].Weak ^= 1 << 31 },
		"first strong":    func(s *api.Sig) { s.Marks[0].Strong = "ab" },
		"last strong":     func(s *api.Sig) { s.Marks[2].Strong = "c" },
		"a mark fewer":    func(s *api.Sig) { s.Marks = s.Marks[:2] },
		"a mark more":     func(s *api.Sig) { s.Marks = append(s.Marks, api.Mark{}) },
		"no marks":        func(s *api.Sig) { s.Marks = nil },
		"marks otherwise": func(s *api.Sig) { s.Marks[0], s.Marks[1] = s.Marks[1], s.Marks[0] },
	}
	if !Same(made(), made()) {
		t.Error("a signature is not the same as itself")
	}
	for name, change := range changes {
		other := made()
		change(&other)
		if Same(made(), other) || Same(other, made()) {
			t.Errorf("the same in spite of %s", name)
		}
		if !Same(other, other) {
			t.Errorf("not the same as itself: %s", name)
		}
	}
	for name, r := range wrong() {
		if !Same(r.s, r.s) || Same(r.s, made()) {
			t.Errorf("Same of what may not be, %s", name)
		}
	}
	if !Same(api.Sig{Marks: []api.Mark{}}, api.Sig{}) {
		t.Error("no marks are not like nil ones")
	}
}

// P6.3.
func TestFits(t *testing.T) {
	text := []byte("0123456789abcdefFEDCBA98765432100123456789abcdefxyz")
	for _, strength := range []int{1, 4, 32} {
		s := plain(text, 16, strength)
		pieces := [][]byte{text[:16], text[16:32], text[32:48], text[48:]}
		same := func(i, j int) bool { return i == j || i == 0 && j == 2 || i == 2 && j == 0 }
		for i := range pieces {
			for j, piece := range pieces {
				if got := Fits(s, i, piece); got != same(i, j) {
					t.Errorf("strength %d: block %d by the mark %d: %v", strength, j, i, got)
				}
			}
			if Fits(s, i, nil) || Fits(s, i, text) || Fits(s, i, pieces[i][1:]) || Fits(s, i, append(bytes.Clone(pieces[i]), 0)) {
				t.Errorf("strength %d: what has another length fits the mark %d", strength, i)
			}
		}
		for _, i := range []int{-1, 4, 5, math.MinInt, math.MaxInt} {
			if Fits(s, i, text[:16]) || Fits(s, i, nil) || Fits(s, i, text[48:]) {
				t.Errorf("strength %d: something fits the block %d", strength, i)
			}
		}
	}
	none := api.Sig{Size: 0, Block: 16, Strength: 1}
	if Fits(none, 0, nil) || Fits(none, 0, []byte{}) || Fits(none, -1, nil) {
		t.Error("something fits where there is no block")
	}
}

// P6.3: each sum counts for itself, and of the strong one the first bytes alone.
func TestFitsBySums(t *testing.T) {
	text := sample(32, 4)
	for _, strength := range []int{1, 2, 32} {
		s := plain(text, 16, strength)
		s.Marks[1].Weak ^= 1
		if !Fits(s, 0, text[:16]) || Fits(s, 1, text[16:]) {
			t.Errorf("strength %d: the rolling sum does not count", strength)
		}
		for at := range strength {
			s = plain(text, 16, strength)
			strong := []byte(s.Marks[0].Strong)
			strong[at] ^= 1
			s.Marks[0].Strong = string(strong)
			if Fits(s, 0, text[:16]) || !Fits(s, 1, text[16:]) {
				t.Errorf("strength %d: the byte %d of the strong sum does not count", strength, at)
			}
		}
	}
	// A last mark that is as long as the block's bytes, but of a size that asks for fewer.
	s := plain(text, 16, 2)
	s.Size = 31
	if Fits(s, 1, text[16:]) {
		t.Error("a block fits that is longer than the size lets it be")
	}
}

// P6.4: the bytes, as the document's words have them.
func TestBytes(t *testing.T) {
	for i, s := range mayBe() {
		if got, err := Bytes(s); err != api.OK || !bytes.Equal(got, plainBytes(s)) {
			t.Errorf("Bytes of signature %d: not as they are to be, %d", i, err)
		}
	}
	s := api.Sig{Size: 300, Block: 512, Strength: 2, Marks: []api.Mark{{Weak: 0x04030201, Strong: "ab"}}}
	want := seal([]byte{172, 2, 128, 4, 2, 1, 2, 3, 4, 'a', 'b'})
	if got, err := Bytes(s); err != api.OK || !bytes.Equal(got, want) {
		t.Errorf("Bytes: %v, %d, want %v", got, err, want)
	}
}

// The chapter's examples.
func TestExamples(t *testing.T) {
	s, err := Of(sample(40, 3), 16, 2)
	if err != api.OK || len(s.Marks) != 3 {
		t.Fatalf("of 40 bytes: %d marks, %d", len(s.Marks), err)
	}
	if b, err := Bytes(s); err != api.OK || len(b) != 25 {
		t.Errorf("of 40 bytes: put as %d bytes, %d", len(b), err)
	}
	if s, err := Of(nil, 16, 2); err != api.OK || len(s.Marks) != 0 {
		t.Errorf("of no bytes: %d marks, %d", len(s.Marks), err)
	}
}

// P6.4: what Read refuses, in the order of its errors.
func TestReadRefuses(t *testing.T) {
	high := bytes.Repeat([]byte{128}, 9)
	great := append(bytes.Repeat([]byte{255}, 8), 64)
	overBasis := binary.AppendUvarint(nil, api.MaxBasis+1)
	whole := plainBytes(plain(sample(40, 2), 16, 2))
	body := whole[:len(whole)-4]
	rows := []struct {
		name string
		b    []byte
		want api.Errno
	}{
		{"nothing", nil, api.ErrEnd},
		{"three bytes", []byte{0, 0, 0}, api.ErrEnd},
		{"a wrong sum", []byte{0, 0, 0, 1}, api.ErrSum},
		{"no seal", body, api.ErrSum},
		{"a wrong sum of what is wrong too", append([]byte{128, 0}, 1, 2, 3, 4), api.ErrSum},
		{"no numbers", seal(), api.ErrEnd},
		{"a size that ends too early", seal([]byte{168}), api.ErrEnd},
		{"a size that is too long", seal([]byte{128, 0}), api.ErrForm},
		{"a size of nine high bytes", seal(high), api.ErrForm},
		{"a size that is too great", seal(great), api.ErrBig},
		{"no block length", seal([]byte{40}), api.ErrEnd},
		{"a block length that is too long", seal([]byte{40, 144, 0, 2}), api.ErrForm},
		{"a block length that is too great", seal([]byte{40}, great, []byte{2}), api.ErrBig},
		{"no strength", seal([]byte{40, 16}), api.ErrEnd},
		{"a strength that is too long", seal([]byte{40, 16, 130, 0}), api.ErrForm},
		{"a strength that is too great", seal([]byte{40, 16}, great), api.ErrBig},
		{"a size above the most, and no more", seal(overBasis), api.ErrEnd},
		{"a size above the most, and a strength that is too long", seal(overBasis, []byte{16, 130, 0}), api.ErrForm},
		{"a block length of 15, and a strength that is too great", seal([]byte{40, 15}, great), api.ErrBig},
		{"a size above the most", seal(overBasis, []byte{16, 2}), api.ErrArg},
		{"a very great size", seal(binary.AppendUvarint(nil, api.MaxNum), []byte{16, 2}), api.ErrArg},
		{"a block length of 0", seal([]byte{0, 0, 2}), api.ErrArg},
		{"a block length of 15", seal([]byte{40, 15, 2}, make([]byte, 18)), api.ErrArg},
		{"a block length above the most", seal([]byte{0}, binary.AppendUvarint(nil, api.MaxBlock+1), []byte{2}), api.ErrArg},
		{"a strength of 0", seal([]byte{40, 16, 0}, make([]byte, 12)), api.ErrArg},
		{"a strength of 33", seal([]byte{16, 16, 33}, make([]byte, 37)), api.ErrArg},
		{"a very great strength", seal([]byte{40, 16}, binary.AppendUvarint(nil, api.MaxNum)), api.ErrArg},
		{"no marks", seal(body[:3]), api.ErrEnd},
		{"marks a byte too short", seal(body[:len(body)-1]), api.ErrEnd},
		{"a mark too few", seal(body[:len(body)-6]), api.ErrEnd},
		{"one byte more", seal(body, []byte{0}), api.ErrForm},
		{"a mark too many", seal(body, make([]byte, 6)), api.ErrForm},
		{"a byte behind no marks", seal([]byte{0, 16, 2, 0}), api.ErrForm},
	}
	for _, r := range rows {
		if s, err := Read(r.b); !empty(s) || err != r.want {
			t.Errorf("Read, %s: %v, %d, want %d", r.name, s, err, r.want)
		}
	}
}

// P6.4: each length that is cut off, and each byte that is changed, is told.
func TestReadOfWhatIsBroken(t *testing.T) {
	whole := plainBytes(plain(sample(40, 2), 16, 2))
	for n := range whole {
		if s, err := Read(whole[:n]); !empty(s) || err != api.ErrEnd && err != api.ErrSum {
			t.Errorf("the first %d bytes: %d", n, err)
		}
		changed := bytes.Clone(whole)
		changed[n] ^= 32
		if s, err := Read(changed); !empty(s) || err != api.ErrSum {
			t.Errorf("the byte %d changed: %d", n, err)
		}
	}
}

// P6.5.
func TestEachBlockFits(t *testing.T) {
	for _, size := range []int{0, 1, 16, 17, 40, 300, 4097} {
		text := sample(size, uint32(size))
		for _, block := range []int{0, 16, 33, api.MaxBlock} {
			for _, strength := range []int{1, 7, 32} {
				s, err := Of(text, block, strength)
				if err != api.OK || Check(s) != api.OK {
					t.Fatalf("%d bytes by %d: what Of tells may not be: %d, %d", size, block, err, Check(s))
				}
				for i := range s.Marks {
					piece := text[i*s.Block : min((i+1)*s.Block, size)]
					if !Fits(s, i, piece) {
						t.Fatalf("%d bytes by %d: block %d does not fit", size, block, i)
					}
				}
			}
		}
	}
}

// P6.6: there and back.
func TestThereAndBack(t *testing.T) {
	for i, s := range mayBe() {
		b, err := Bytes(s)
		if err != api.OK {
			t.Fatalf("Bytes of signature %d: %d", i, err)
		}
		got, err := Read(b)
		if err != api.OK || !like(got, s) || !Same(got, s) {
			t.Fatalf("Read of the bytes of signature %d: not as it was, %d", i, err)
		}
	}
}

// P6.6: whatever is read, of bytes that look like chance, is put as these bytes.
func TestBackAndThere(t *testing.T) {
	read := 0
	for seed := range uint32(3000) {
		chance := sample(3, seed)
		size, strength, extra := int(chance[0]), 1+int(chance[1])%3, int(chance[2])%2
		told := sample((size+15)/16*(4+strength)+extra, seed)
		b := seal(binary.AppendUvarint(nil, uint64(size)), []byte{16, byte(strength)}, told)
		s, err := Read(b)
		if err != api.OK {
			continue
		}
		read++
		if again, err := Bytes(s); err != api.OK || !bytes.Equal(again, b) {
			t.Fatalf("seed %d: what was read is put otherwise, %d", seed, err)
		}
	}
	if read < 1000 {
		t.Errorf("only %d were read", read)
	}
}

// What is handed in is neither changed nor kept, and an answer is new memory.
func TestNewMemory(t *testing.T) {
	room := sample(60, 9)
	was := bytes.Clone(room)
	s, _ := Of(room[:40], 16, 3)
	clear(room)
	if !like(s, plain(was[:40], 16, 3)) {
		t.Error("Of keeps what was handed in")
	}

	kept := plain(was[:40], 16, 3)
	spare := append(slices.Clone(kept.Marks), api.Mark{Weak: 77, Strong: "spare"})
	s.Marks = spare[:3]
	first, _ := Bytes(s)
	second, _ := Bytes(s)
	if !Fits(s, 0, was[:16]) || !like(s, kept) || spare[3].Weak != 77 {
		t.Error("what was handed in was changed")
	}
	clear(first[:cap(first)])
	if !bytes.Equal(second, plainBytes(kept)) {
		t.Error("two answers of Bytes share memory")
	}

	one, _ := Read(second)
	other, _ := Read(second)
	clear(second[:cap(second)])
	clear(one.Marks[:cap(one.Marks)])
	if !like(other, kept) {
		t.Error("what Read answers is shared")
	}
}
