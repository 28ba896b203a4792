package match

import (
	"bytes"
	"crypto/sha256"
	"slices"
	"strings"
	"testing"

	"remora/api"
	"remora/delta"
	"remora/sig"
)

// tell, copyOf: an op of each kind.
func tell(s string) api.Op          { return api.Op{Data: []byte(s)} }
func copyOf(off, length int) api.Op { return api.Op{Off: off, Len: length} }

// ops: a list of ops.
func ops(l ...api.Op) []api.Op { return l }

// like: are two lists of ops the same, field by field?
func like(a, b []api.Op) bool {
	return slices.EqualFunc(a, b, func(x, y api.Op) bool {
		return x.Off == y.Off && x.Len == y.Len && bytes.Equal(x.Data, y.Data)
	})
}

// dice: numbers that look like chance.
type dice uint32

func (d *dice) below(n int) int {
	*d = *d*1664525 + 1013904223
	return int(*d>>8) % n
}

// text: so many bytes, of so many kinds.
func (d *dice) text(n, kinds int) []byte {
	out := make([]byte, n)
	for i := range out {
		out[i] = byte('a' + d.below(kinds))
	}
	return out
}

// remade: a text made of pieces of another one, some of them whole blocks, with other bytes between.
func (d *dice) remade(base []byte, block, pieces int) []byte {
	var out []byte
	for range pieces {
		switch d.below(4) {
		case 0:
			out = append(out, d.text(d.below(block), 3)...)
		case 1:
			from := d.below(len(base) + 1)
			out = append(out, base[from:from+d.below(len(base)-from+1)]...)
		default:
			from := d.below(len(base)/block+1) * block
			out = append(out, base[from:min(from+block*(1+d.below(3)), len(base))]...)
		}
	}
	return out[:min(len(out), api.MaxFile)]
}

// weakOf: the rolling sum, as the document's words have it.
func weakOf(text []byte) uint32 {
	a, b := 0, 0
	for i, c := range text {
		a += int(c) + 31
		b += (int(c) + 31) * (len(text) - i)
	}
	return uint32(a%65536 + 65536*(b%65536))
}

// markOf: both sums of a stretch.
func markOf(stretch []byte, strength int) api.Mark {
	strong := sha256.Sum256(stretch)
	return api.Mark{Weak: weakOf(stretch), Strong: string(strong[:strength])}
}

// lengthOf: how long a block is.
func lengthOf(s api.Sig, i int) int { return min(s.Block, s.Size-i*s.Block) }

// picked: the block that a stretch is taken for.
func picked(s api.Sig, stretch []byte, want int) (int, bool) {
	mark := markOf(stretch, s.Strength)
	fits := func(i int) bool { return s.Marks[i] == mark && lengthOf(s, i) == len(stretch) }
	if want < len(s.Marks) && fits(want) {
		return want, true
	}
	for i := range s.Marks {
		if fits(i) {
			return i, true
		}
	}
	return 0, false
}

// plain: the search, as the document's words have it, place by place; told bytes that follow one another in one op, copies too.
func plain(s api.Sig, text []byte) []api.Op {
	var out []api.Op
	want := 0
	for at := 0; at < len(text); {
		left := text[at:]
		var stretch []byte
		if len(left) >= s.Block {
			stretch = left[:s.Block]
		} else if n := len(s.Marks); n > 0 && len(left) == lengthOf(s, n-1) {
			stretch = left
		}
		last := len(out) - 1
		i, taken := 0, false
		if len(stretch) > 0 {
			i, taken = picked(s, stretch, want)
		}
		switch {
		case !taken && last >= 0 && out[last].Len == 0:
			out[last].Data = append(out[last].Data, text[at])
			at++
			continue
		case !taken:
			out = append(out, tell(string(text[at:at+1])))
			at++
			continue
		case last >= 0 && out[last].Len > 0 && out[last].Off+out[last].Len == i*s.Block:
			out[last].Len += len(stretch)
		default:
			out = append(out, copyOf(i*s.Block, len(stretch)))
		}
		want = i + 1
		at += len(stretch)
	}
	return out
}

// sigOf: the signature of a text.
func sigOf(t *testing.T, text []byte, block, strength int) api.Sig {
	t.Helper()
	s, err := sig.Of(text, block, strength)
	if err != api.OK {
		t.Fatalf("the signature of %d bytes: %d", len(text), err)
	}
	return s
}

// scan: a scan by a signature that may be.
func scan(t *testing.T, s api.Sig) *Scan {
	t.Helper()
	x, err := New(s)
	if err != api.OK || x == nil {
		t.Fatalf("New: %v, %d", x, err)
	}
	return x
}

// search: a case to search.
type search struct {
	s    api.Sig
	base []byte
	text []byte
}

// searches: many cases, with bases and texts of few kinds of bytes, so that blocks are often alike.
func searches(t *testing.T, many int) []search {
	t.Helper()
	var out []search
	d := dice(7)
	for range many {
		block := 16 + d.below(9)
		base := d.text(d.below(10*block), 1+d.below(4))
		if d.below(3) == 0 {
			base = bytes.Repeat(base[:min(len(base), block)], d.below(5))
		}
		s := sigOf(t, base, block, 1+d.below(32))
		out = append(out, search{s, base, d.remade(base, block, d.below(8))})
	}
	return out
}

// P9.1: the search, place by place.
func TestOfIsTheSearch(t *testing.T) {
	for _, c := range searches(t, 3000) {
		got, err := Of(c.s, c.text)
		if want := plain(c.s, c.text); err != api.OK || !like(got, want) {
			t.Fatalf("Of, basis %q by %d, text %q:\n%v, %d\nnot\n%v", c.base, c.s.Block, c.text, got, err, want)
		}
	}
}

// P9.1: rows by hand.
func TestOfRows(t *testing.T) {
	a, b, tail := "first block 0001", "second block 002", "rest"
	base := a + b + tail
	rows := []struct {
		name, base, text string
		want             []api.Op
	}{
		{"the chapter's: B, x, A", a + b, b + "x" + a, ops(copyOf(16, 16), tell("x"), copyOf(0, 16))},
		{"nothing", base, "", nil},
		{"the basis", base, base, ops(copyOf(0, 36))},
		{"nothing, of nothing", "", "", nil},
		{"a text, of nothing", "", "some text, longer than a block", ops(tell("some text, longer than a block"))},
		{"a byte ahead", base, "x" + base, ops(tell("x"), copyOf(0, 36))},
		{"a byte behind: the tail is not at the end", base, base + "x", ops(copyOf(0, 32), tell("restx"))},
		{"the tail in the midst, and at the end", base, tail + a + tail, ops(tell("rest"), copyOf(0, 16), copyOf(32, 4))},
		{"the tail alone", base, tail, ops(copyOf(32, 4))},
		{"the tail behind others", base, "x" + tail, ops(tell("x"), copyOf(32, 4))},
		{"the tail, with less than a block ahead", base, "0123456789a" + tail, ops(tell("0123456789a"), copyOf(32, 4))},
		{"a part of the tail", base, "res", ops(tell("res"))},
		{"a part of the tail's end", base, "est", ops(tell("est"))},
		{"a block but for a byte", base, a[:15], ops(tell(a[:15]))},
		{"a block that is cut at both ends", base, a[1:] + b[:15], ops(tell(a[1:] + b[:15]))},
		{"the first block twice", base, a + a, ops(copyOf(0, 16), copyOf(0, 16))},
		{"a basis below a block", tail, "x" + tail, ops(tell("x"), copyOf(0, 4))},
		{"a basis below a block, in a longer text", tail, strings.Repeat("x", 40) + tail, ops(tell(strings.Repeat("x", 40)), copyOf(0, 4))},
		{"a basis below a block, not at the end", tail, tail + strings.Repeat("x", 40), ops(tell(tail + strings.Repeat("x", 40)))},
		{"a tail of one byte", a + "x", "xxx" + a + "xx", ops(tell("xxx"), copyOf(0, 16), tell("x"), copyOf(16, 1))},
		{"16 times A", strings.Repeat("A", 16), "x" + strings.Repeat("A", 16), ops(tell("x"), copyOf(0, 16))},
		{"17 times A", strings.Repeat("A", 16), strings.Repeat("A", 17), ops(copyOf(0, 16), tell("A"))},
		{"20 times A, of which the tail is 4", strings.Repeat("A", 20), strings.Repeat("A", 23), ops(copyOf(0, 16), tell("AAA"), copyOf(16, 4))},
	}
	for _, r := range rows {
		s := sigOf(t, []byte(r.base), 16, 8)
		if got, err := Of(s, []byte(r.text)); err != api.OK || !like(got, r.want) {
			t.Errorf("Of, %s: %v, %d, want %v", r.name, got, err, r.want)
		}
	}
}

// P9.1: of blocks that are alike the one that follows is wanted, also behind told bytes; else the least.
func TestOfWants(t *testing.T) {
	a, b, c := "aaaaaaaaaaaaaaaa", "bbbbbbbbbbbbbbbb", "cccccccccccccccc"
	rows := []struct {
		name, base, text string
		want             []api.Op
	}{
		{"all alike", a + a + a, a + a + a, ops(copyOf(0, 48))},
		{"all alike, and more", a + a + a, a + a + a + a, ops(copyOf(0, 48), copyOf(0, 16))},
		{"the second one behind b", a + b + a, b + a, ops(copyOf(16, 32))},
		{"the least ahead of all", b + a + a, a, ops(copyOf(16, 16))},
		{"wanted behind told bytes", a + b + a, b + "x" + a, ops(copyOf(16, 16), tell("x"), copyOf(32, 16))},
		{"the least, where the one that follows is another", a + b + a + c, c + a, ops(copyOf(48, 16), copyOf(0, 16))},
		{"the first one is wanted at first", a + b + a, "x" + a, ops(tell("x"), copyOf(0, 16))},
		{"wanted anew behind each", a + b + c + a + c, a + c + a, ops(copyOf(0, 16), copyOf(32, 32))},
	}
	for _, r := range rows {
		s := sigOf(t, []byte(r.base), 16, 8)
		if got, err := Of(s, []byte(r.text)); err != api.OK || !like(got, r.want) {
			t.Errorf("Of, %s: %v, %d, want %v", r.name, got, err, r.want)
		}
	}
}

// P9.1: both sums and the length are asked, of signatures that no text has.
func TestOfMadeSignatures(t *testing.T) {
	text := []byte("0123456789abcdefXYZ")
	whole, tail := markOf(text[:16], 4), markOf(text[16:], 4)
	other := api.Mark{Weak: 1, Strong: "none"}
	rows := []struct {
		name  string
		size  int
		marks []api.Mark
		want  []api.Op
	}{
		{"both blocks", 19, []api.Mark{whole, tail}, ops(copyOf(0, 19))},
		{"another rolling sum", 19, []api.Mark{{Weak: whole.Weak + 1, Strong: whole.Strong}, tail}, ops(tell("0123456789abcdef"), copyOf(16, 3))},
		{"another strong sum", 19, []api.Mark{{Weak: whole.Weak, Strong: "none"}, tail}, ops(tell("0123456789abcdef"), copyOf(16, 3))},
		{"the other strong sum", 19, []api.Mark{{Weak: whole.Weak, Strong: tail.Strong}, tail}, ops(tell("0123456789abcdef"), copyOf(16, 3))},
		{"sums of a whole block at the shorter one", 19, []api.Mark{other, whole}, ops(tell(string(text)))},
		{"sums of the tail at a whole block", 32, []api.Mark{other, tail}, ops(tell(string(text)))},
		{"sums of the tail at a whole block, and a last one of its length", 35, []api.Mark{other, tail, tail}, ops(tell("0123456789abcdef"), copyOf(32, 3))},
		{"a last block of another length", 18, []api.Mark{whole, tail}, ops(copyOf(0, 16), tell("XYZ"))},
		{"the same rolling sum, the right strong one behind", 48, []api.Mark{{Weak: whole.Weak, Strong: "none"}, other, whole}, ops(copyOf(32, 16), tell("XYZ"))},
	}
	for _, r := range rows {
		s := api.Sig{Size: r.size, Block: 16, Strength: 4, Marks: r.marks}
		if got, err := Of(s, text); err != api.OK || !like(got, r.want) {
			t.Errorf("Of, %s: %v, %d, want %v", r.name, got, err, r.want)
		}
	}
}

// wrongSigs: signatures that may not be, with sig.Check's errors.
func wrongSigs() map[string]struct {
	s    api.Sig
	want api.Errno
} {
	type row = struct {
		s    api.Sig
		want api.Errno
	}
	return map[string]row{
		"zero":                    {api.Sig{}, api.ErrArg},
		"strength 0":              {api.Sig{Block: 16}, api.ErrArg},
		"strength 33":             {api.Sig{Block: 16, Strength: 33}, api.ErrArg},
		"size -1":                 {api.Sig{Size: -1, Block: 16, Strength: 1}, api.ErrArg},
		"size above the most":     {api.Sig{Size: api.MaxBasis + 1, Block: 16, Strength: 1}, api.ErrArg},
		"block 15":                {api.Sig{Block: 15, Strength: 1}, api.ErrArg},
		"block above the most":    {api.Sig{Block: api.MaxBlock + 1, Strength: 1}, api.ErrArg},
		"block 0 and no marks":    {api.Sig{Size: 40, Strength: 1}, api.ErrArg},
		"no marks":                {api.Sig{Size: 1, Block: 16, Strength: 1}, api.ErrForm},
		"a mark too many":         {api.Sig{Block: 16, Strength: 1, Marks: []api.Mark{{Strong: "a"}}}, api.ErrForm},
		"a strong that is longer": {api.Sig{Size: 1, Block: 16, Strength: 1, Marks: []api.Mark{{Strong: "ab"}}}, api.ErrForm},
		"a strong that is none":   {api.Sig{Size: 1, Block: 16, Strength: 1, Marks: []api.Mark{{}}}, api.ErrForm},
	}
}

// P9.1, P9.2: sig.Check's errors, ahead of ErrBig.
func TestWrongSignatures(t *testing.T) {
	for name, r := range wrongSigs() {
		for _, n := range []int{0, 20, api.MaxFile + 1} {
			if l, err := Of(r.s, make([]byte, n)); len(l) != 0 || err != r.want {
				t.Errorf("Of, %s, %d bytes: %v, %d, want %d", name, n, l, err, r.want)
			}
		}
		if x, err := New(r.s); x != nil || err != r.want {
			t.Errorf("New, %s: %v, %d, want %d", name, x, err, r.want)
		}
	}
}

// P9.1: as long as a text may be, and longer.
func TestOfLimits(t *testing.T) {
	d := dice(1)
	text := d.text(api.MaxFile+1, 20)
	s := sigOf(t, text[:api.MaxFile], 0, 4)
	if l, err := Of(s, text); len(l) != 0 || err != api.ErrBig {
		t.Errorf("Of a text that is too long: %d ops, %d", len(l), err)
	}
	if l, err := Of(s, text[:api.MaxFile]); err != api.OK || !like(l, ops(copyOf(0, api.MaxFile))) {
		t.Errorf("Of a text that is as long as may be: %d ops, %d", len(l), err)
	}
	none := sigOf(t, nil, 16, 1)
	if l, err := Of(none, text[:api.MaxFile]); err != api.OK || !like(l, ops(api.Op{Data: text[:api.MaxFile]})) {
		t.Errorf("Of the same, all told: %d ops, %d", len(l), err)
	}
	big := append(d.text(api.MaxBasis-api.MaxFile, 20), text[:api.MaxFile]...)
	if l, err := Of(sigOf(t, big, api.MaxBlock, 32), text[:api.MaxFile]); err != api.OK || !like(l, ops(copyOf(api.MaxBasis-api.MaxFile, api.MaxFile))) {
		t.Errorf("Of the greatest basis and blocks: %d ops, %d", len(l), err)
	}
}

// P9.3: as many ops as can come may be: blocks with a byte between.
func TestMostOps(t *testing.T) {
	base := []byte("0123456789abcdef")
	text := bytes.Repeat(append(bytes.Clone(base), 'x'), api.MaxFile/17+1)[:api.MaxFile]
	l, err := Of(sigOf(t, base, 16, 8), text)
	if err != api.OK || delta.Check(l, 16) != api.OK || len(l) < 7000 {
		t.Fatalf("%d ops, %d, %d", len(l), err, delta.Check(l, 16))
	}
	if got, _ := delta.Apply(base, l); !bytes.Equal(got, text) {
		t.Error("they do not make the text")
	}
}

// P9.3: of a basis' signature the ops make the text; P9.4: no more is told than the text has.
func TestOfMakesTheText(t *testing.T) {
	for _, c := range searches(t, 2000) {
		l, err := Of(c.s, c.text)
		if err != api.OK || delta.Check(l, len(c.base)) != api.OK || delta.Size(l) != len(c.text) {
			t.Fatalf("basis %q, text %q: %v, %d", c.base, c.text, l, err)
		}
		if told, copied := delta.Cost(l); told > len(c.text) || told+copied != len(c.text) {
			t.Fatalf("basis %q, text %q: told %d, copied %d", c.base, c.text, told, copied)
		}
		// By few bytes of the strong sum blocks that are unlike may clash.
		if got, err := delta.Apply(c.base, l); c.s.Strength > 7 && (err != api.OK || !bytes.Equal(got, c.text)) {
			t.Fatalf("basis %q, text %q: %v makes %q", c.base, c.text, l, got)
		}
	}
}

// P9.3: of any signature that may be the ops may be, and make as many bytes as the text has.
func TestOfAnySignature(t *testing.T) {
	d := dice(11)
	for range 500 {
		text := d.text(d.below(200), 2)
		s := api.Sig{Size: 1 + d.below(100), Block: 16, Strength: 1 + d.below(32)}
		for from := 0; from < s.Size; from += 16 {
			at := d.below(len(text) + 1)
			s.Marks = append(s.Marks, markOf(text[at:min(at+1+d.below(20), len(text))], s.Strength))
		}
		l, err := Of(s, text)
		if err != api.OK || delta.Check(l, s.Size) != api.OK || delta.Size(l) != len(text) || !like(l, plain(s, text)) {
			t.Fatalf("%v, text %q: %v, %d", s, text, l, err)
		}
	}
}

// P9.4: a text each block of which is the basis' own is copied as a whole.
func TestOwnBlocks(t *testing.T) {
	d := dice(3)
	for range 300 {
		block := 16 + d.below(20)
		base := d.text(1+d.below(12*block), 1+d.below(30))
		s := sigOf(t, base, block, 16)
		var text []byte
		for range d.below(10) * (len(base) / block) {
			from := d.below(len(base)/block) * block
			text = append(text, base[from:from+block]...)
		}
		text = append(text, base[len(base)/block*block:]...)
		for _, b := range [][]byte{base, text, base[:len(base)/block*block]} {
			l, err := Of(s, b)
			told, copied := delta.Cost(l)
			if err != api.OK || told != 0 || copied != len(b) {
				t.Fatalf("basis %q by %d, text %q: %v, %d", base, block, b, l, err)
			}
		}
	}
}

// P9.2: in whatever pieces a text comes, all that is told is what Of tells; and little is held back.
func TestFeed(t *testing.T) {
	d := dice(5)
	for _, c := range searches(t, 1500) {
		want, _ := Of(c.s, c.text)
		for _, most := range []int{1, 2, 15, 16, 17, 40, 1000} {
			x := scan(t, c.s)
			var got []api.Op
			came := 0
			for came < len(c.text) {
				n := min(d.below(most+1), len(c.text)-came)
				got = append(got, x.Feed(c.text[came:came+n])...)
				came += n
				if held := came - delta.Size(got); x.Seen() != came || held < 0 || held >= c.s.Block {
					t.Fatalf("basis %q, text %q: of %d bytes (Seen %d) %d are held back", c.base, c.text, came, x.Seen(), held)
				}
			}
			got = append(got, x.Done()...)
			if !like(delta.Norm(got), want) || x.Seen() != came {
				t.Fatalf("basis %q, text %q, by up to %d: %v, not %v", c.base, c.text, most, got, want)
			}
		}
	}
}

// P9.2: of what is fed as much is told as the pieces so far allow: a block at once, and a byte that no block can begin with.
func TestFeedTellsEarly(t *testing.T) {
	base := "0123456789abcdefghijklmnopqrstuvxyz"
	x := scan(t, sigOf(t, []byte(base), 16, 8))
	rows := []struct {
		feed string
		want []api.Op
	}{
		{"", nil},
		{"0123456789abcde", nil},
		{"f", ops(copyOf(0, 16))},
		{"-ghijklmnopqrst", nil},
		{"u", ops(tell("-"))},
		{"v", ops(copyOf(16, 16))},
		{"xyz", nil},
	}
	for _, r := range rows {
		if got := x.Feed([]byte(r.feed)); !like(delta.Norm(got), r.want) {
			t.Errorf("Feed %q: %v, want %v", r.feed, got, r.want)
		}
	}
	if got := x.Done(); !like(delta.Norm(got), ops(copyOf(32, 3))) || x.Seen() != 36 {
		t.Errorf("Done: %v, behind %d bytes", got, x.Seen())
	}
}

// P9.2: behind Done nothing is told, and nothing comes.
func TestBehindDone(t *testing.T) {
	for _, text := range []string{"", "abc", "0123456789abcdef0123"} {
		x := scan(t, sigOf(t, []byte("0123456789abcdef"), 16, 8))
		got := append(x.Feed([]byte(text)), x.Done()...)
		if delta.Size(got) != len(text) {
			t.Errorf("of %q: %v", text, got)
		}
		for range 2 {
			if l := x.Feed([]byte("0123456789abcdef and more of it, than a block")); len(l) != 0 || x.Seen() != len(text) {
				t.Errorf("Feed behind Done: %v, Seen %d", l, x.Seen())
			}
			if l := x.Done(); len(l) != 0 || x.Seen() != len(text) {
				t.Errorf("Done behind Done: %v, Seen %d", l, x.Seen())
			}
		}
	}
}

// P9.2: what comes beyond the greatest file is passed over.
func TestFeedLimits(t *testing.T) {
	d := dice(9)
	text := d.text(api.MaxFile+5000, 20)
	s := sigOf(t, text[1000:9000], 64, 8)
	want, _ := Of(s, text[:api.MaxFile])
	for _, n := range []int{len(text), api.MaxFile, api.MaxFile - 1, 65000, 4096, 999} {
		x := scan(t, s)
		var got []api.Op
		for piece := range slices.Chunk(text, n) {
			got = append(got, x.Feed(piece)...)
		}
		if x.Seen() != api.MaxFile || api.MaxFile-delta.Size(got) >= 64 {
			t.Errorf("by %d: Seen %d, told %d", n, x.Seen(), delta.Size(got))
		}
		if l := x.Feed(text); len(l) != 0 || x.Seen() != api.MaxFile {
			t.Errorf("by %d, what comes behind: %v", n, l)
		}
		if got = append(got, x.Done()...); !like(delta.Norm(got), want) {
			t.Errorf("by %d: not what Of tells", n)
		}
	}
}

// A nil scan: nothing, 0. One that New did not make does not panic.
func TestNilScan(t *testing.T) {
	var none *Scan
	if len(none.Feed([]byte("abc"))) != 0 || len(none.Done()) != 0 || none.Seen() != 0 {
		t.Error("a nil scan tells something")
	}
	zero := new(Scan)
	zero.Feed([]byte("abc"))
	zero.Seen()
	zero.Done()
}

// What is handed in is neither changed nor kept.
func TestKeepsNothing(t *testing.T) {
	base := []byte("0123456789abcdefghijklmnopqrstuvxyz")
	text := []byte("--ghijklmnopqrstuv0123456789abcdef-xyz")
	s := sigOf(t, base, 16, 8)
	want, _ := Of(s, text)
	room := append(bytes.Clone(text), "spare room"...)
	if Of(s, room[:len(text)]); string(room) != string(text)+"spare room" || !sig.Same(s, sigOf(t, base, 16, 8)) {
		t.Error("Of changed what was handed in")
	}
	marks := slices.Clone(s.Marks)
	x := scan(t, api.Sig{Size: s.Size, Block: s.Block, Strength: s.Strength, Marks: marks})
	clear(marks)
	var got []api.Op
	piece := make([]byte, 3, 9)
	for part := range slices.Chunk(text, 3) {
		n := copy(piece, part)
		got = append(got, x.Feed(piece[:n])...)
		clear(piece)
	}
	if got = append(got, x.Done()...); !like(delta.Norm(got), want) {
		t.Errorf("of what was cleared behind each call: %v, not %v", got, want)
	}
}

// An answer is new memory: what is done to it, its spare room too, is nothing to the scan and to other answers.
func TestNewMemory(t *testing.T) {
	base := []byte("0123456789abcdefghijklmnopqrstuvxyz")
	text := []byte("one--ghijklmnopqrstuvtwo0123456789abcdefthree, and then more-xyz")
	s := sigOf(t, base, 16, 8)
	want, _ := Of(s, text)
	spoil := func(l []api.Op) {
		for _, op := range l {
			clear(op.Data[:cap(op.Data)])
		}
		clear(l[:cap(l)])
	}
	deep := func(l []api.Op) []api.Op {
		out := slices.Clone(l)
		for i := range out {
			out[i].Data = bytes.Clone(out[i].Data)
		}
		return out
	}
	for _, n := range []int{1, 5, 16, 100} {
		x := scan(t, s)
		var got []api.Op
		for piece := range slices.Chunk(text, n) {
			l := x.Feed(piece)
			got = append(got, deep(l)...)
			spoil(l)
		}
		if got = append(got, x.Done()...); !like(delta.Norm(got), want) {
			t.Errorf("by %d, of answers that were spoilt: %v, not %v", n, got, want)
		}
	}
	l, _ := Of(s, text)
	for i := range l {
		own := deep(l)
		clear(l[i].Data[:cap(l[i].Data)])
		for k := range l {
			if k != i && !bytes.Equal(l[k].Data, own[k].Data) {
				t.Fatalf("the ops %d and %d share memory", i, k)
			}
		}
		l = own
	}
}

// Two scans of one signature are nothing to each other.
func TestTwoScans(t *testing.T) {
	s := sigOf(t, []byte("0123456789abcdefghijklmnopqrstuv"), 16, 8)
	one, other := scan(t, s), scan(t, s)
	one.Feed([]byte("0123456789abcdefghij"))
	if l := append(other.Feed([]byte("ghijklmnopqrstuv-")), other.Done()...); !like(delta.Norm(l), ops(copyOf(16, 16), tell("-"))) {
		t.Errorf("the other one: %v", l)
	}
	if l := append(one.Feed([]byte("klmnopqrstuv")), one.Done()...); !like(delta.Norm(l), ops(copyOf(16, 16))) || one.Seen() != 32 {
		t.Errorf("the first one: %v", l)
	}
}
