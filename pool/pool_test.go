package pool

import (
	"bytes"
	"crypto/sha256"
	"math"
	"slices"
	"strings"
	"testing"

	"remora/api"
	"remora/gear"
)

// sumOf: the strong sum of a text.
func sumOf(s string) string {
	sum := sha256.Sum256([]byte(s))
	return string(sum[:])
}

// made: a pool with room, and texts.
func made(t *testing.T, room int, texts ...string) *Pool {
	t.Helper()
	p, err := New(room)
	if err != api.OK || p == nil {
		t.Fatal(room, err)
	}
	for _, s := range texts {
		add(t, p, s)
	}
	return p
}

// add: a text that must be taken.
func add(t *testing.T, p *Pool, s string) {
	t.Helper()
	if sum, err := p.Add([]byte(s)); err != api.OK || sum != sumOf(s) {
		t.Fatalf("Add %.20q: %v", s, err)
	}
}

// list: texts as bytes.
func list(texts ...string) [][]byte {
	var out [][]byte
	for _, s := range texts {
		out = append(out, []byte(s))
	}
	return out
}

// sumsOf: the sums of texts.
func sumsOf(texts ...string) []string {
	var out []string
	for _, s := range texts {
		out = append(out, sumOf(s))
	}
	return out
}

// stands: how many pieces, and bytes.
func stands(t *testing.T, p *Pool, count, size int) {
	t.Helper()
	if p.Count() != count || p.Bytes() != size {
		t.Error("pieces, bytes:", p.Count(), p.Bytes(), "want", count, size)
	}
}

// plain: a pool as the chapter says it, with nothing but a list.
type plain struct {
	room int
	all  []asked
}

type asked struct {
	sum, text string
	count     int
}

func (p *plain) find(sum string) *asked {
	for i := range p.all {
		if p.all[i].sum == sum {
			return &p.all[i]
		}
	}
	return nil
}

func (p *plain) bytes() int {
	n := 0
	for _, x := range p.all {
		n += len(x.text)
	}
	return n
}

func (p *plain) add(s string) api.Errno {
	if len(s) > 65536 {
		return api.ErrBig
	}
	if x := p.find(sumOf(s)); x != nil {
		x.count++
		return api.OK
	}
	if p.bytes()+len(s) > p.room {
		return api.ErrFull
	}
	p.all = append(p.all, asked{sumOf(s), s, 1})
	return api.OK
}

func (p *plain) take(sum string) api.Errno {
	x := p.find(sum)
	if x == nil {
		return api.ErrNone
	}
	x.count++
	return api.OK
}

func (p *plain) give(sum string) api.Errno {
	x := p.find(sum)
	if x == nil || x.count == 0 {
		return api.ErrNone
	}
	x.count--
	return api.OK
}

func (p *plain) sweep() int {
	was := len(p.all)
	p.all = slices.DeleteFunc(p.all, func(x asked) bool { return x.count == 0 })
	return was - len(p.all)
}

func (p *plain) put(l []string) api.Errno {
	was := slices.Clone(p.all)
	for _, s := range l {
		if err := p.add(s); err != api.OK {
			p.all = was
			return err
		}
	}
	return api.OK
}

func (p *plain) file(l []string) (string, api.Errno) {
	out := ""
	for _, sum := range l {
		x := p.find(sum)
		if x == nil {
			return "", api.ErrNone
		}
		if out += x.text; len(out) > 65536 {
			return "", api.ErrBig
		}
	}
	return out, api.OK
}

// dice: numbers that look like chance.
type dice uint32

func (d *dice) below(n int) int {
	*d = *d*1664525 + 1013904223
	return int(*d>>8) % n
}

// some: texts out of a list.
func (d *dice) some(texts []string) []string {
	var out []string
	for range d.below(6) {
		out = append(out, texts[d.below(len(texts))])
	}
	return out
}

// same: the pool is as the plain one.
func same(t *testing.T, got *Pool, want *plain, texts []string) {
	t.Helper()
	stands(t, got, len(want.all), want.bytes())
	if got.Bytes() > want.room {
		t.Error("more bytes than room")
	}
	for _, s := range texts {
		sum := sumOf(s)
		b, ok := got.Get(sum)
		if there := want.find(sum) != nil; ok != there || there && string(b) != s || !there && b != nil {
			t.Errorf("Get of %.20q: %v", s, ok)
		}
	}
}

// P12.1 to P12.6: long rows of calls, each answered as the plain pool does.
func TestLongRows(t *testing.T) {
	texts := []string{"", "a", "b", "ab", "abc", "0123456789", strings.Repeat("x", 30), strings.Repeat("y", 30), strings.Repeat("z", 65536), strings.Repeat("z", 65537)}
	met := map[api.Errno]int{}
	for seed := range 40 {
		d := dice(seed)
		room := []int{0, 3, 40, 80, 70000}[seed%5]
		got, want := made(t, room), &plain{room: room}
		for range 120 {
			s := texts[d.below(len(texts))]
			sum := sumOf(s)
			var err, wanted api.Errno
			switch d.below(8) {
			case 0:
				var told string
				told, err = got.Add([]byte(s))
				if wanted = want.add(s); wanted == api.OK && told != sum || wanted != api.OK && told != "" {
					t.Error("the sum that Add tells")
				}
			case 1:
				err, wanted = got.Take(sum), want.take(sum)
			case 2, 3, 4:
				err, wanted = got.Give(sum), want.give(sum)
			case 5:
				if a, b := got.Sweep(), want.sweep(); a != b {
					t.Error("Sweep:", a, b)
				}
			case 6:
				l := d.some(texts)
				var sums []string
				sums, err = got.Put(list(l...))
				if wanted = want.put(l); wanted == api.OK && !slices.Equal(sums, sumsOf(l...)) || wanted != api.OK && sums != nil {
					t.Error("the sums that Put tells")
				}
			case 7:
				l := sumsOf(d.some(texts)...)
				var b []byte
				var whole string
				b, err = got.File(l)
				if whole, wanted = want.file(l); string(b) != whole || wanted != api.OK && b != nil {
					t.Error("File")
				}
			}
			if err != wanted {
				t.Fatal(seed, room, err, wanted)
			}
			met[err]++
			same(t, got, want, texts)
		}
	}
	for _, err := range []api.Errno{api.OK, api.ErrBig, api.ErrFull, api.ErrNone} {
		if met[err] < 50 {
			t.Error("too seldom:", int(err), met[err])
		}
	}
}

// The chapter's examples.
func TestExamples(t *testing.T) {
	p := made(t, 10, "abc", "abc")
	stands(t, p, 1, 3)
	if p.Give(sumOf("abc")) != api.OK || p.Give(sumOf("abc")) != api.OK || p.Sweep() != 1 {
		t.Error("given twice, and swept")
	}
	stands(t, p, 0, 0)
	if err := p.Give(sumOf("abc")); err != api.ErrNone {
		t.Error(err)
	}
	if sum, err := p.Add(make([]byte, 11)); sum != "" || err != api.ErrFull {
		t.Error(sum, err)
	}
	stands(t, p, 0, 0)
}

// P12.1: rooms that may be, and that may not.
func TestNew(t *testing.T) {
	for _, room := range []int{-1, -65536, math.MinInt} {
		if p, err := New(room); p != nil || err != api.ErrArg {
			t.Error(room, err)
		}
	}
	for _, room := range []int{0, 1, 65536, math.MaxInt} {
		stands(t, made(t, room), 0, 0)
	}
	p := made(t, math.MaxInt, "abc")
	add(t, p, strings.Repeat("x", api.MaxFile))
	stands(t, p, 2, api.MaxFile+3)
}

// P12.1: a pool is filled to the last byte, not beyond; what is there already takes no room.
func TestRoom(t *testing.T) {
	p := made(t, 10, "abcd", "efghij")
	stands(t, p, 2, 10)
	if sum, err := p.Add([]byte("k")); sum != "" || err != api.ErrFull {
		t.Error(err)
	}
	add(t, p, "abcd")
	add(t, p, "")
	stands(t, p, 3, 10)
	p.Give(sumOf("efghij"))
	if _, err := p.Add([]byte("k")); err != api.ErrFull {
		t.Error("a piece that nobody asks for has its room till it is swept:", err)
	}
	if p.Sweep() != 1 {
		t.Error("Sweep")
	}
	add(t, p, "klmnop")
	stands(t, p, 3, 10)

	none := made(t, 0, "")
	stands(t, none, 1, 0)
	if b, ok := none.Get(sumOf("")); len(b) != 0 || !ok {
		t.Error("the empty piece")
	}
	if _, err := none.Add([]byte("a")); err != api.ErrFull {
		t.Error(err)
	}
}

// P12.1: texts that are too long are told so, ahead of a pool that is full.
func TestTooLong(t *testing.T) {
	for _, room := range []int{0, 100, 1 << 20} {
		p := made(t, room)
		if sum, err := p.Add(make([]byte, api.MaxFile+1)); sum != "" || err != api.ErrBig {
			t.Error(room, err)
		}
		stands(t, p, 0, 0)
	}
	p := made(t, api.MaxFile)
	add(t, p, strings.Repeat("x", api.MaxFile))
	stands(t, p, 1, api.MaxFile)
}

// P12.2: sums of which there is no piece.
func TestNone(t *testing.T) {
	p := made(t, 100, "abc")
	whole := sumOf("abc")
	for _, sum := range []string{"", "abc", sumOf("ab"), whole[:31], whole + "x", strings.Repeat("\x00", 32)} {
		if b, ok := p.Get(sum); b != nil || ok {
			t.Error("Get:", b, ok)
		}
		if err := p.Take(sum); err != api.ErrNone {
			t.Error("Take:", err)
		}
		if err := p.Give(sum); err != api.ErrNone {
			t.Error("Give:", err)
		}
		if b, err := p.File([]string{whole, sum}); b != nil || err != api.ErrNone {
			t.Error("File:", b, err)
		}
	}
	stands(t, p, 1, 3)
	if p.Give(whole) != api.OK || p.Give(whole) != api.ErrNone {
		t.Error("the count has changed")
	}
}

// P12.2, P12.5: a piece stays while it was asked for oftener than given.
func TestCounts(t *testing.T) {
	p := made(t, 100, "a", "b", "b", "c")
	if p.Take(sumOf("c")) != api.OK || p.Take(sumOf("c")) != api.OK {
		t.Error("Take")
	}
	for _, s := range []string{"a", "b", "c", "c"} {
		if err := p.Give(sumOf(s)); err != api.OK {
			t.Error(s, err)
		}
	}
	stands(t, p, 3, 3)
	if b, ok := p.Get(sumOf("a")); string(b) != "a" || !ok {
		t.Error("what is not swept yet can be got:", string(b), ok)
	}
	if b, err := p.File(sumsOf("a", "a", "b")); string(b) != "aab" || err != api.OK {
		t.Error("what is not swept yet can be in a file:", string(b), err)
	}
	if err := p.Give(sumOf("a")); err != api.ErrNone {
		t.Error("given oftener than asked for:", err)
	}
	if n := p.Sweep(); n != 1 {
		t.Error(n)
	}
	if n := p.Sweep(); n != 0 {
		t.Error("swept once more:", n)
	}
	stands(t, p, 2, 2)
	if err := p.Take(sumOf("a")); err != api.ErrNone {
		t.Error(err)
	}
}

// P12.2: a piece with the count 0 that is asked for again stays.
func TestAskedAgain(t *testing.T) {
	p := made(t, 2, "a", "b")
	p.Give(sumOf("a"))
	p.Give(sumOf("b"))
	if err := p.Take(sumOf("a")); err != api.OK {
		t.Error(err)
	}
	add(t, p, "b")
	if n := p.Sweep(); n != 0 {
		t.Error(n)
	}
	stands(t, p, 2, 2)
}

// P12.3: the sums are in the order of the texts, however many these are.
func TestPut(t *testing.T) {
	d := dice(3)
	for _, n := range []int{0, 1, 2, 3, 4, 5, 6, 7, 8, 9, 100, 3001} {
		var l []string
		size := 0
		for i := range n {
			s := strings.Repeat(string(rune('a'+i%26)), 1+d.below(30)) + string(rune('a'+i/26))
			l = append(l, s)
		}
		kinds := map[string]bool{}
		for _, s := range l {
			if !kinds[s] {
				size += len(s)
			}
			kinds[s] = true
		}
		p := made(t, 1<<20)
		sums, err := p.Put(list(l...))
		if err != api.OK || !slices.Equal(sums, sumsOf(l...)) {
			t.Fatal(n, err, len(sums))
		}
		stands(t, p, len(kinds), size)
		for _, s := range l {
			if err := p.Give(sumOf(s)); err != api.OK {
				t.Fatal("a count for each:", err)
			}
		}
		if got := p.Sweep(); got != len(kinds) {
			t.Error("a count too many:", n, got)
		}
	}
}

// P12.3: the first error of them is told, and nothing has changed.
func TestPutRefused(t *testing.T) {
	long := strings.Repeat("x", api.MaxFile+1)
	rows := []struct {
		l    []string
		want api.Errno
	}{
		{[]string{"abcdefg"}, api.ErrFull},
		{[]string{"abcd", "efg"}, api.ErrFull},
		{[]string{"abcd", "in", "abcd", "ef", "g"}, api.ErrFull},
		{[]string{long}, api.ErrBig},
		{[]string{"in", "new", long}, api.ErrBig},
		{[]string{"in", long, "abcdefg"}, api.ErrBig},
		{[]string{"in", "abcdefg", long}, api.ErrFull},
		{[]string{"abc", "defg", long}, api.ErrFull},
	}
	for i, r := range rows {
		p := made(t, 10, "in", "side", "side")
		p.Give(sumOf("side"))
		p.Give(sumOf("side"))
		if sums, err := p.Put(list(r.l...)); sums != nil || err != r.want {
			t.Error(i, len(sums), err)
		}
		stands(t, p, 2, 6)
		if p.Give(sumOf("in")) != api.OK || p.Give(sumOf("in")) != api.ErrNone {
			t.Error(i, "a count has changed")
		}
		if n := p.Sweep(); n != 2 {
			t.Error(i, n)
		}
	}
	p := made(t, 10, "in", "side")
	if sums, err := p.Put(list("abcd", "in", "abcd", "side", "", "abcd")); err != api.OK || len(sums) != 6 {
		t.Error("to the last byte:", err)
	}
	stands(t, p, 4, 10)
}

// P12.4: files of no piece, of one that stands often, and as long as they may be.
func TestFile(t *testing.T) {
	half := strings.Repeat("h", api.MaxFile/2)
	p := made(t, 1<<20, "", "a", "bc", half)
	rows := []struct {
		sums []string
		text string
		want api.Errno
	}{
		{nil, "", api.OK},
		{sumsOf(""), "", api.OK},
		{sumsOf("a", "bc", "", "a"), "abca", api.OK},
		{sumsOf(half, half), half + half, api.OK},
		{sumsOf(half, half, ""), half + half, api.OK},
		{sumsOf(half, half, "a"), "", api.ErrBig},
		{sumsOf("a", half, half), "", api.ErrBig},
		{sumsOf("a", "no"), "", api.ErrNone},
		{sumsOf("no", half, half, "a"), "", api.ErrNone},
		{sumsOf(half, half, "no", "a"), "", api.ErrNone},
		{sumsOf(half, half, "a", "no"), "", api.ErrBig},
		{sumsOf(half, half, half, "no"), "", api.ErrBig},
	}
	for i, r := range rows {
		b, err := p.File(r.sums)
		if err != r.want || string(b) != r.text || err != api.OK && b != nil {
			t.Error(i, len(b), err)
		}
	}
	stands(t, p, 4, 3+len(half))
}

// P12.6: what was cut and put is, as a file, the text.
func TestCutAndPut(t *testing.T) {
	d := dice(4)
	for _, size := range []int{0, 1, 1000, 30000, api.MaxFile} {
		b := make([]byte, size)
		for i := range b {
			b[i] = byte(d.below(2))
		}
		copy(b[size/2:], b[:size/4])
		pieces, err := gear.Pieces(b, gear.Params{Least: 10, Most: 300, Bits: 5})
		if err != api.OK {
			t.Fatal(err)
		}
		p := made(t, size)
		sums, err := p.Put(pieces)
		if err != api.OK || len(sums) != len(pieces) {
			t.Fatal(size, err)
		}
		if got, err := p.File(sums); err != api.OK || !bytes.Equal(got, b) {
			t.Error(size, err)
		}
		if size > 1000 && p.Bytes() >= size {
			t.Error("what stands twice is kept twice:", size, p.Bytes())
		}
	}
}

// Of a nil pool: ErrNil, nothing, false, 0.
func TestNil(t *testing.T) {
	var p *Pool
	if sum, err := p.Add(make([]byte, api.MaxFile+1)); sum != "" || err != api.ErrNil {
		t.Error("Add:", err)
	}
	if b, ok := p.Get(sumOf("")); b != nil || ok {
		t.Error("Get:", ok)
	}
	if p.Take("x") != api.ErrNil || p.Give("x") != api.ErrNil {
		t.Error("Take, Give")
	}
	if p.Count() != 0 || p.Bytes() != 0 || p.Sweep() != 0 {
		t.Error("Count, Bytes, Sweep")
	}
	if l, err := p.Put(list("a")); l != nil || err != api.ErrNil {
		t.Error("Put:", err)
	}
	if b, err := p.File(nil); b != nil || err != api.ErrNil {
		t.Error("File:", err)
	}
}

// A Pool that no New made: its answers are open, but none panics.
func TestZero(t *testing.T) {
	for _, b := range [][]byte{nil, []byte("a")} {
		var p, q Pool
		p.Get(sumOf(""))
		p.Take(sumOf(""))
		p.Give(sumOf(""))
		p.Add(b)
		p.File(sumsOf(""))
		p.Sweep()
		q.Put([][]byte{nil, b})
		if p.Count()+p.Bytes()+q.Count()+q.Bytes() < 0 {
			t.Error("below 0")
		}
	}
}

// What is handed in is neither changed nor kept, and what is answered is new.
func TestMemory(t *testing.T) {
	p := made(t, 100)
	one, two, three := []byte("abcdef"), []byte("ghi"), []byte("abc")
	l := [][]byte{two, three, two}
	p.Add(one[:3])
	sums, _ := p.Put(l[:2])
	if string(one) != "abcdef" || string(two) != "ghi" || string(three) != "abc" || len(l) != 3 || &l[2][0] != &two[0] {
		t.Error("changed")
	}
	clear(one)
	clear(two)
	clear(three)
	clear(l)
	got, _ := p.Get(sums[0])
	whole, _ := p.File(sums[:1])
	if string(got) != "ghi" || string(whole) != "ghi" {
		t.Error("kept:", got, whole)
	}
	clear(got[:cap(got)])
	clear(whole[:cap(whole)])
	sums[1] = "x"
	again, _ := p.Get(sumOf("ghi"))
	if string(again) != "ghi" || !p.has(sumOf("abc")) {
		t.Error("the answer is the pool's own memory")
	}
	_ = append(again, "xyz"...)
	if b, err := p.File(sumsOf("ghi", "abc")); string(b) != "ghiabc" || err != api.OK {
		t.Error("spare room is the pool's:", string(b))
	}
}

// Two pools of the same calls answer the same, however their goroutines run.
func TestAnyOrder(t *testing.T) {
	var l []string
	for i := range 200 {
		l = append(l, strings.Repeat(string(rune('a'+i%7)), 1+i*i%9000))
	}
	for range 20 {
		p := made(t, 1<<22)
		sums, err := p.Put(list(l...))
		if err != api.OK || !slices.Equal(sums, sumsOf(l...)) {
			t.Fatal(err)
		}
	}
}
