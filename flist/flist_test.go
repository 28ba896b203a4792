package flist

import (
	"bytes"
	"math"
	"slices"
	"strconv"
	"strings"
	"testing"

	"remora/api"
	"remora/path"
	"remora/tree"
	"remora/walk"
)

var (
	fullMeta  = api.Meta{Mode: 4095, Sec: 1 << 40, Nano: 999999999, Uid: 1<<31 - 1, Gid: 1<<31 - 1}
	leastMeta = api.Meta{Sec: -1 << 40}
	wrongMeta = api.Meta{Mode: 4096}
	long      = strings.Repeat("L", 48)
	longest   = long + "/" + long + "/" + long + "/" + long + "/abcd" // a path of as many bytes as may be
	someSum   = strings.Repeat("\x00\xff", 16)
)

func dir(p string) api.Entry  { return api.Entry{Path: p, Kind: api.Dir} }
func file(p string) api.Entry { return api.Entry{Path: p, Kind: api.File} }
func link(p, target string) api.Entry {
	return api.Entry{Path: p, Kind: api.Link, Size: len(target), Target: target}
}
func grouped(p string, group int) api.Entry {
	return api.Entry{Path: p, Kind: api.File, Group: group}
}

// chain: n parts "k".
func chain(n int) string {
	return strings.Repeat("k/", n)[:2*n-1]
}

// chains: the directories chain(1) to chain(n).
func chains(n int) []api.Entry {
	var out []api.Entry
	for i := range n {
		out = append(out, dir(chain(i+1)))
	}
	return out
}

// example: entries of all kinds.
func example() []api.Entry {
	return []api.Entry{
		{Path: "a", Kind: api.Dir, Size: 2, Meta: fullMeta},
		{Path: "a/b", Kind: api.File, Size: 300, Group: 1, Sum: someSum},
		{Path: "a/bc", Kind: api.File, Size: 65536, Group: 2, Meta: leastMeta},
		{Path: "a/bcd", Kind: api.Link, Size: 3, Target: "a/b", Meta: fullMeta},
		{Path: "a/d", Kind: api.File, Size: 300, Group: 1, Sum: someSum},
		{Path: "a.b", Kind: api.Dir, Size: 1<<31 - 1},
		{Path: "a.b/b", Kind: api.File},
	}
}

// mayBe: lists that may be.
func mayBe() [][]api.Entry {
	l := [][]api.Entry{
		nil, {}, example(), {file("a")}, {dir("a")}, {link("a", "b")}, {file(".remora")}, {dir(".remora"), file(".remora/x")},
		append(chains(11), file(chain(12))),
		{dir(long), dir(long + "/" + long), dir(long + "/" + long + "/" + long), dir(long + "/" + long + "/" + long + "/" + long), file(longest)},
		{link("a", strings.Repeat("t", 200)), link("b", strings.Repeat("t", 127)), link("c", "\x00\n/.."), link("c\xff", "\xff")},
		{file("\x01"), file("\n"), file(" "), file("..."), file("\x7f"), file("\x80")},
		{file("é"), file("ê")}, // they begin with the same byte
		{dir("a"), file("a/a"), dir("b"), file("b/a"), file("ba")},
		{dir("a"), dir("a/b"), file("a/b/c"), file("a/c"), file("a.b"), file("b")},
		{grouped("a", 1), grouped("b", 2), grouped("c", 1), grouped("d", 3), file("e"), grouped("f", 3), grouped("g", 2)},
	}
	var many []api.Entry
	for i := range 300 {
		e := grouped("f"+strconv.Itoa(1000+i), i+1)
		many = append(many, e)
	}
	return append(l, many, walk.List(someTree(), nil), walk.Sums(someTree(), walk.List(someTree(), nil)))
}

// someTree: a tree with things of all kinds.
func someTree() *tree.Tree {
	x := tree.New()
	x.Mkdir("d", fullMeta)
	x.Mkdir("d/e", leastMeta)
	x.Write("d/e/f", []byte("abc"), fullMeta)
	x.Link("d/e/f", "g")
	x.Write("d/e.f", bytes.Repeat([]byte("max"), 1<<14), leastMeta)
	x.Link("d/e.f", "h")
	x.Symlink("d/l", "../g", api.Meta{})
	x.Write("one", nil, api.Meta{})
	return x
}

// The chapter's examples.
func TestExamples(t *testing.T) {
	e := api.Entry{Path: "a", Kind: api.File, Size: 3}
	b, err := Bytes([]api.Entry{e})
	if want := seal([]byte{1, 0, 1, 'a', 1, 3, 0, 0, 0, 0, 0, 0}); err != api.OK || !bytes.Equal(b, want) {
		t.Error(b, int(err))
	}
	if err := Check([]api.Entry{file("a/b")}); err != api.ErrNotDir {
		t.Error(int(err))
	}
}

// P20.1: what may be by itself, and what may not.
func TestCheckOne(t *testing.T) {
	with := func(e api.Entry, change func(*api.Entry)) api.Entry {
		change(&e)
		return e
	}
	size := func(e api.Entry, n int) api.Entry { return with(e, func(e *api.Entry) { e.Size = n }) }
	sum := func(e api.Entry, s string) api.Entry { return with(e, func(e *api.Entry) { e.Sum = s }) }
	group := func(e api.Entry, n int) api.Entry { return with(e, func(e *api.Entry) { e.Group = n }) }
	target := func(e api.Entry, s string) api.Entry { return with(e, func(e *api.Entry) { e.Target = s }) }
	kind := func(e api.Entry, n int) api.Entry { return with(e, func(e *api.Entry) { e.Kind = n }) }
	about := func(e api.Entry, m api.Meta) api.Entry { return with(e, func(e *api.Entry) { e.Meta = m }) }
	name := func(e api.Entry, p string) api.Entry { return with(e, func(e *api.Entry) { e.Path = p }) }
	f, d, l := file("a"), dir("a"), link("a", "tt")
	for i, r := range []struct {
		e    api.Entry
		want api.Errno
	}{
		{f, api.OK}, {d, api.OK}, {l, api.OK}, {name(f, long), api.OK}, {name(f, ".remora"), api.OK}, {name(f, "..."), api.OK},
		{name(f, ""), api.ErrName}, {name(d, ""), api.ErrName}, {name(f, "/"), api.ErrName}, {name(f, "/a"), api.ErrName}, {name(f, "a/"), api.ErrName}, {name(f, "."), api.ErrName}, {name(f, ".."), api.ErrName}, {name(f, "a\x00"), api.ErrName}, {name(f, long+"L"), api.ErrName}, {name(f, chain(13)), api.ErrName}, {name(f, longest+"e"), api.ErrName},
		{kind(f, 0), api.ErrKind}, {kind(f, 4), api.ErrKind}, {kind(f, -1), api.ErrKind}, {kind(f, 5), api.ErrKind}, {kind(f, math.MaxInt), api.ErrKind}, {kind(f, math.MinInt), api.ErrKind},
		{about(f, fullMeta), api.OK}, {about(d, leastMeta), api.OK}, {about(f, wrongMeta), api.ErrArg}, {about(d, wrongMeta), api.ErrArg}, {about(l, wrongMeta), api.ErrArg}, {about(f, api.Meta{Nano: -1}), api.ErrArg}, {about(f, api.Meta{Gid: 1 << 31}), api.ErrArg},
		{size(f, 65536), api.OK}, {size(f, 65537), api.ErrArg}, {size(f, -1), api.ErrArg}, {size(f, math.MinInt), api.ErrArg},
		{size(d, 65537), api.OK}, {size(d, 1<<31-1), api.OK}, {size(d, 1<<31), api.ErrArg}, {size(d, -1), api.ErrArg},
		{size(l, 1), api.ErrArg}, {size(l, 3), api.ErrArg}, {size(l, 0), api.ErrArg}, {size(l, -2), api.ErrArg},
		{target(f, "t"), api.ErrArg}, {target(size(f, 1), "t"), api.ErrArg}, {target(size(d, 1), "t"), api.ErrArg}, {link("a", ""), api.ErrArg}, {link("a", "t"), api.OK}, {link("a", strings.Repeat("t", 200)), api.OK}, {link("a", strings.Repeat("t", 201)), api.ErrArg}, {link("a", "\x00"), api.OK},
		{sum(f, someSum), api.OK}, {sum(f, someSum[1:]), api.ErrArg}, {sum(f, someSum+"s"), api.ErrArg}, {sum(f, "s"), api.ErrArg}, {sum(d, someSum), api.ErrArg}, {sum(l, someSum), api.ErrArg}, {sum(d, "s"), api.ErrArg},
		{group(f, 1), api.OK}, {group(f, -1), api.ErrArg}, {group(f, math.MinInt), api.ErrArg}, {group(d, 1), api.ErrArg}, {group(l, 1), api.ErrArg}, {group(d, -1), api.ErrArg}, {group(l, -1), api.ErrArg}, {group(f, 2), api.ErrForm}, {group(f, math.MaxInt), api.ErrForm},
		// The first of several.
		{name(kind(about(f, wrongMeta), 9), "/"), api.ErrName}, {kind(about(f, wrongMeta), 9), api.ErrKind}, {about(group(f, 2), wrongMeta), api.ErrArg}, {name(about(f, wrongMeta), "n/n"), api.ErrArg}, {name(group(f, 2), "n/n"), api.ErrNotDir},
	} {
		if err := Check([]api.Entry{r.e}); err != r.want || plainCheck([]api.Entry{r.e}) != r.want {
			t.Errorf("%d: %.200v: %d, want %d", i, r.e, int(err), int(r.want))
		}
		if b, err := Bytes([]api.Entry{r.e}); err != r.want || err != api.OK && b != nil {
			t.Errorf("%d: Bytes: %v %d, want %d", i, b, int(err), int(r.want))
		}
	}
}

// P20.1: what may stand behind what.
func TestCheckRows(t *testing.T) {
	for i, r := range []struct {
		l    []api.Entry
		want api.Errno
	}{
		{[]api.Entry{file("a"), file("a")}, api.ErrThere}, {[]api.Entry{dir("a"), file("a")}, api.ErrThere}, {[]api.Entry{dir("a"), file("a/b"), file("a")}, api.ErrRange},
		{[]api.Entry{file("b"), file("a")}, api.ErrRange}, {[]api.Entry{dir("a"), file("a.b"), file("a/b")}, api.ErrRange}, {[]api.Entry{dir("a"), file("a/b"), file("a.b")}, api.OK}, {[]api.Entry{dir("a"), file("a-"), file("a/b")}, api.ErrRange}, {[]api.Entry{file("\x80"), file("\x7f")}, api.ErrRange}, {[]api.Entry{file("ab"), file("a")}, api.ErrRange}, {[]api.Entry{file("a/b"), dir("a")}, api.ErrNotDir},
		{[]api.Entry{dir("a"), file("a/b"), file("c"), file("a/d")}, api.ErrRange},
		{[]api.Entry{file("a"), file("a/b")}, api.ErrNotDir}, {[]api.Entry{link("a", "b"), file("a/b")}, api.ErrNotDir}, {[]api.Entry{dir("a"), file("b/c")}, api.ErrNotDir}, {[]api.Entry{dir("a"), file("a/b/c")}, api.ErrNotDir}, {[]api.Entry{dir("a"), dir("a/b"), file("a/b/c"), file("a/d")}, api.OK}, {[]api.Entry{dir("b"), file("a/b")}, api.ErrRange}, {[]api.Entry{dir("a"), dir("a/b"), file("a/c/b")}, api.ErrNotDir}, {[]api.Entry{file(".remora/x")}, api.ErrNotDir},
		{[]api.Entry{grouped("a", 1), grouped("b", 1), grouped("c", 2), grouped("d", 1), grouped("e", 3)}, api.OK}, {[]api.Entry{grouped("a", 1), grouped("b", 3)}, api.ErrForm}, {[]api.Entry{file("a"), grouped("b", 2)}, api.ErrForm}, {[]api.Entry{grouped("a", 1), file("b"), grouped("c", 2), grouped("d", 4)}, api.ErrForm}, {[]api.Entry{grouped("a", 1), grouped("b", math.MaxInt)}, api.ErrForm},
		// Entry by entry; of one the first.
		{[]api.Entry{file("b"), file("a"), file("")}, api.ErrRange}, {[]api.Entry{grouped("a", 2), file("")}, api.ErrForm}, {[]api.Entry{file(""), file("a"), file("a")}, api.ErrName}, {[]api.Entry{file("a"), {Path: "a", Kind: 4}}, api.ErrKind}, {[]api.Entry{file("b"), {Path: "a", Kind: 1, Size: -1}}, api.ErrArg}, {[]api.Entry{file("a/b"), file("a/b")}, api.ErrNotDir}, {[]api.Entry{file("b"), grouped("b", 7)}, api.ErrThere}, {[]api.Entry{file("b"), grouped("a/b", 7)}, api.ErrRange}, {[]api.Entry{file("b"), grouped("c/b", 7)}, api.ErrNotDir},
		{append(chains(12), file(chain(12)+"/k")), api.ErrName},
	} {
		if err := Check(r.l); err != r.want || plainCheck(r.l) != r.want {
			t.Errorf("%d: %v: %d, want %d", i, r.l, int(err), int(r.want))
		}
		if b, err := Bytes(r.l); err != r.want || err != api.OK && b != nil {
			t.Errorf("%d: Bytes: %v %d, want %d", i, b, int(err), int(r.want))
		}
	}
	for i, l := range mayBe() {
		if err := Check(l); err != api.OK {
			t.Errorf("the list %d: %d", i, int(err))
		}
	}
}

// dice: numbers that look like chance.
type dice uint32

func (d *dice) below(n int) int {
	*d = *d*1664525 + 1013904223
	return int(*d>>8) % n
}

// somePath: a path, or now and then none.
func (d *dice) somePath() string {
	parts := []string{"a", "a", "b", "b", "a.b", "ab", "c", long, "é", "ê"}
	p := ""
	for range 1 + d.below(3) {
		p += "/" + parts[d.below(len(parts))]
	}
	if d.below(80) == 0 {
		return p
	}
	return p[1:]
}

// entry: one that mostly may be by itself.
func (d *dice) entry() api.Entry {
	e := api.Entry{Path: d.somePath(), Kind: 1 + d.below(3), Meta: []api.Meta{{}, fullMeta, leastMeta, {Mode: 420, Sec: -3, Uid: 7}}[d.below(4)]}
	switch e.Kind {
	case api.File:
		e.Size = d.below(65537)
		e.Group = max(0, d.below(9)-5)
		if d.below(3) == 0 {
			e.Sum = strings.Repeat(string([]byte{byte(d.below(256))}), 32)
		}
	case api.Link:
		e.Target = strings.Repeat("t", 1+d.below(5))
		e.Size = len(e.Target)
	}
	if d.below(80) == 0 {
		e.Size = -e.Size
	}
	if d.below(80) == 0 {
		e.Kind = d.below(6)
	}
	if d.below(80) == 0 {
		e.Meta.Mode = 4096
	}
	return e
}

// list: some entries, mostly in order, with the directories above them.
func (d *dice) list() []api.Entry {
	var all []api.Entry
	for range d.below(7) {
		all = append(all, d.entry())
	}
	for _, e := range all {
		for p := path.Parent(e.Path); p != "" && d.below(20) > 0; p = path.Parent(p) {
			all = append(all, dir(p))
		}
	}
	if d.below(8) > 0 {
		all = plainSort(all)
	}
	if d.below(20) > 0 {
		all = slices.CompactFunc(all, func(a, b api.Entry) bool { return a.Path == b.Path })
	}
	return all
}

// plainSort: the entries in order, each put behind all that are not ahead of it.
func plainSort(l []api.Entry) []api.Entry {
	var out []api.Entry
	for _, e := range l {
		at := 0
		for i, x := range out {
			if !path.Less(e.Path, x.Path) {
				at = i + 1
			}
		}
		out = slices.Insert(out, at, e)
	}
	return out
}

// P20.1, P20.3, P20.5: lists by chance: all errors are met, and what may be is laid as the words say, and read as it was.
func TestByChance(t *testing.T) {
	d := dice(20)
	met := map[api.Errno]int{}
	for range 60000 {
		l := d.list()
		want := plainCheck(l)
		met[want]++
		if err := Check(l); err != want {
			t.Fatalf("%v: %d, want %d", l, int(err), int(want))
		}
		b, err := Bytes(l)
		if err != want {
			t.Fatalf("Bytes of %v: %d, want %d", l, int(err), int(want))
		}
		if err != api.OK {
			if b != nil {
				t.Fatal("bytes beside an error:", b)
			}
			continue
		}
		if want := seal(plainBody(l)); !bytes.Equal(b, want) {
			t.Fatalf("Bytes of %v: %q, want %q", l, b, want)
		}
		if got, err := Read(b); err != api.OK || !slices.Equal(got, l) {
			t.Fatalf("Read of the bytes of %v: %v %d", l, got, int(err))
		}
	}
	for _, err := range []api.Errno{api.OK, api.ErrName, api.ErrKind, api.ErrArg, api.ErrThere, api.ErrRange, api.ErrNotDir, api.ErrForm} {
		if met[err] < 100 {
			t.Error("too few:", int(err), met[err])
		}
	}
}

// P20.2: Find tells the first of any.
func TestFind(t *testing.T) {
	l := []api.Entry{file("b"), file("a"), link("b", "x"), file(""), file("a/"), file("a\x00"), {Path: "z", Kind: 99}, file("")}
	for p, want := range map[string]int{"b": 0, "a": 1, "": 3, "a/": 4, "a\x00": 5, "z": 6, "c": -1, "a/b": -1, "B": -1, "a/\x00": -1, "/": -1} {
		if at, ok := Find(l, p); at != max(want, 0) || ok != (want >= 0) {
			t.Errorf("Find(%q): %d %v", p, at, ok)
		}
	}
	for _, p := range []string{"", "a"} {
		if at, ok := Find(nil, p); at != 0 || ok {
			t.Errorf("Find(nil, %q): %d %v", p, at, ok)
		}
	}
}

// P20.2: Same, field by field, of any lists.
func TestSame(t *testing.T) {
	l := append(example(), api.Entry{Path: "/", Kind: 9, Size: -1, Meta: wrongMeta, Target: "t", Sum: "s", Group: -1})
	if !Same(l, slices.Clone(l)) || !Same(nil, []api.Entry{}) || Same(l, l[1:]) || Same(l[1:], l) || Same(l, l[:len(l)-1]) || Same(nil, l) || Same(l, nil) {
		t.Error("as many")
	}
	for i := range l {
		for k, change := range []func(*api.Entry){
			func(e *api.Entry) { e.Path += "x" }, func(e *api.Entry) { e.Kind++ }, func(e *api.Entry) { e.Size++ }, func(e *api.Entry) { e.Target += "x" }, func(e *api.Entry) { e.Sum += "x" }, func(e *api.Entry) { e.Group++ },
			func(e *api.Entry) { e.Meta.Mode++ }, func(e *api.Entry) { e.Meta.Sec++ }, func(e *api.Entry) { e.Meta.Nano++ }, func(e *api.Entry) { e.Meta.Uid++ }, func(e *api.Entry) { e.Meta.Gid++ },
		} {
			other := slices.Clone(l)
			change(&other[i])
			if Same(l, other) || Same(other, l) {
				t.Error(i, k)
			}
		}
	}
	swapped := slices.Clone(l)
	swapped[0], swapped[1] = swapped[1], swapped[0]
	if Same(l, swapped) {
		t.Error("in another order")
	}
}

// P20.2: Below, of any lists, as they stand.
func TestBelow(t *testing.T) {
	l := []api.Entry{file("b/c"), dir("a"), file("a/b"), file("a.b"), {Path: "a/b/c", Kind: 77}, file(""), file("a/"), file("a//b"), file("/a/b"), file("ab"), file("a/b"), file("/")}
	for top, want := range map[string][]int{
		"":      {0, 1, 2, 3, 4, 5, 6, 7, 8, 9, 10, 11},
		"a":     {2, 4, 6, 7, 10},
		"a/b":   {4},
		"a/":    {7},
		"b":     {0},
		"a/b/c": nil, "n": nil, "a.b": nil, "b/": nil, "/": nil, "/a": {8}, "B": nil,
	} {
		var all []api.Entry
		for _, i := range want {
			all = append(all, l[i])
		}
		if got := Below(l, top); !slices.Equal(got, all) {
			t.Errorf("Below %q: %v", top, got)
		}
	}
	if got := Below(nil, ""); len(got) != 0 {
		t.Error(got)
	}
}

// P20.2: Sort of any lists; of one path as they stood.
func TestSort(t *testing.T) {
	d := dice(7)
	for range 2000 {
		var l []api.Entry
		for i := range d.below(60) {
			e := d.entry()
			e.Size = i // so that all are unlike
			if d.below(9) == 0 {
				e.Path = []string{"", "/", "a/", "a//b", "\x00", ".."}[d.below(6)]
			}
			l = append(l, e)
		}
		was := slices.Clone(l)
		if got, want := Sort(l), plainSort(l); !slices.Equal(got, want) || !slices.Equal(l, was) {
			t.Fatalf("%v, want %v", got, want)
		}
	}
	if got := Sort(nil); len(got) != 0 {
		t.Error(got)
	}
}

// P20.6, P20.7: what follows for lists that may be.
func TestWhatFollows(t *testing.T) {
	d := dice(6)
	for i, l := range mayBe() {
		for at, e := range l {
			if got, ok := Find(l, e.Path); got != at || !ok {
				t.Errorf("the list %d: Find(%q): %d %v", i, e.Path, got, ok)
			}
			below := Below(l, e.Path)
			if behind := l[at+1:]; len(below) > len(behind) || !slices.Equal(below, behind[:len(below)]) || e.Kind != api.Dir && len(below) > 0 {
				t.Errorf("the list %d: Below(%q): %v", i, e.Path, below)
			}
		}
		mixed := slices.Clone(l)
		for k := range mixed {
			other := d.below(k + 1)
			mixed[k], mixed[other] = mixed[other], mixed[k]
		}
		if got := Sort(mixed); !Same(got, l) {
			t.Errorf("the list %d: Sort: %v", i, got)
		}
		reversed := slices.Clone(l)
		slices.Reverse(reversed)
		if got := Sort(reversed); !Same(got, l) {
			t.Errorf("the list %d: Sort: %v", i, got)
		}
	}
}

// A list of many entries is put in order, laid and read soon enough.
func TestMany(t *testing.T) {
	var l []api.Entry
	for i := range 100 {
		l = append(l, dir("d"+strconv.Itoa(100+i)))
		for k := range 300 {
			l = append(l, file("d"+strconv.Itoa(100+i)+"/f"+strconv.Itoa(100+k)))
		}
	}
	mixed := make([]api.Entry, len(l))
	for i, e := range l {
		mixed[i*7919%len(l)] = e
	}
	if !Same(Sort(mixed), l) {
		t.Error("Sort")
	}
	b, err := Bytes(l)
	if got, e := Read(b); err != api.OK || e != api.OK || !Same(got, l) {
		t.Error(int(err), int(e))
	}
}
