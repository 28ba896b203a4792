package walk

import (
	"crypto/sha256"
	"math"
	"slices"
	"strconv"
	"strings"
	"testing"

	"remora/api"
	"remora/path"
	"remora/rules"
	"remora/tree"
)

var (
	someMeta = api.Meta{Mode: 420, Sec: -7, Nano: 9, Uid: 3, Gid: 4}
	fullMeta = api.Meta{Mode: 4095, Sec: 1 << 40, Nano: 999999999, Uid: 1<<31 - 1, Gid: 1<<31 - 1}
)

// step is a call that makes something of a tree, and must be taken.
type step func(*tree.Tree) api.Errno

func dir(p string) step { return func(x *tree.Tree) api.Errno { return x.Mkdir(p, someMeta) } }
func file(p, b string) step {
	return func(x *tree.Tree) api.Errno { return x.Write(p, []byte(b), someMeta) }
}
func name(old, p string) step { return func(x *tree.Tree) api.Errno { return x.Link(old, p) } }
func link(p, target string) step {
	return func(x *tree.Tree) api.Errno { return x.Symlink(p, target, fullMeta) }
}

// made: the tree of those steps.
func made(t *testing.T, steps ...step) *tree.Tree {
	t.Helper()
	x := tree.New()
	for i, s := range steps {
		if err := s(x); err != api.OK {
			t.Fatal(i, int(err))
		}
	}
	return x
}

// lines: the rules of those lines.
func lines(t *testing.T, l ...string) []api.Rule {
	t.Helper()
	out, number, err := rules.Lines(strings.Join(l, "\n"))
	if err != api.OK {
		t.Fatal(number, int(err))
	}
	return out
}

// paths: the paths of those entries.
func paths(l []api.Entry) []string {
	var out []string
	for _, e := range l {
		out = append(out, e.Path)
	}
	return out
}

// isReserved: is p ".remora", or below it?
func isReserved(p string) bool {
	return p == ".remora" || strings.HasPrefix(p, ".remora/")
}

// plainSeen: is the thing at p seen, and are those above it?
func plainSeen(x *tree.Tree, l []api.Rule, p string) bool {
	for ; p != ""; p = path.Parent(p) {
		s, _ := x.Stat(p)
		if isReserved(p) || rules.Hidden(l, p, s.Kind == api.Dir) {
			return false
		}
	}
	return true
}

// plainList: the entries of all that is seen, as the chapter's words have them.
func plainList(x *tree.Tree, l []api.Rule) []api.Entry {
	var out []api.Entry
	all := x.Paths()
	groups := map[string]int{} // by a file's first name, seen or not
	for _, p := range all {
		if !plainSeen(x, l, p) {
			continue
		}
		s, _ := x.Stat(p)
		e := api.Entry{Path: p, Kind: s.Kind, Meta: s.Meta, Target: s.Target}
		switch s.Kind {
		case api.File:
			b, _ := x.Read(p)
			e.Size = len(b)
			if names := x.Names(p); len(names) > 1 {
				if groups[names[0]] == 0 {
					groups[names[0]] = len(groups) + 1
				}
				e.Group = groups[names[0]]
			}
		case api.Dir:
			for _, q := range all {
				if path.Parent(q) == p {
					e.Size++
				}
			}
		case api.Link:
			e.Size = len(s.Target)
		}
		out = append(out, e)
	}
	return out
}

// dice: numbers that look like chance.
type dice uint32

func (d *dice) below(n int) int {
	*d = *d*1664525 + 1013904223
	return int(*d>>8) % n
}

// of: one of those.
func (d *dice) of(l ...string) string {
	return l[d.below(len(l))]
}

// somePath: a short path.
func (d *dice) somePath() string {
	p := ""
	for range 1 + d.below(4) {
		p += "/" + d.of("a", "a", "b", "b", "a.b", "c", ".remora", ".remorb", "a-")
	}
	return p[1:]
}

// chance: a tree of all kinds of things.
func chance(d *dice) *tree.Tree {
	x := tree.New()
	for range 60 + d.below(60) {
		p := d.somePath()
		switch d.below(8) {
		case 0, 1, 2:
			x.Mkdir(p, someMeta)
		case 3:
			x.Write(p, []byte(p), fullMeta)
		case 4, 5, 6:
			x.Link(d.of(append(x.Paths(), p)...), p)
		case 7:
			x.Symlink(p, d.somePath(), someMeta)
		}
	}
	return x
}

// rule: a rule, one that may not be among them.
func (d *dice) rule() api.Rule {
	pattern := d.of("a", "b", "c", "*", "?", "a.*", "a/b", "b/a", "*/a", "**/b", "a/**", "b/**/a", ".remora", ".r*", "[ab]", "n", "a/", "/a", "", "[", "a\nb")
	return api.Rule{Act: d.below(7) - 1, Pattern: pattern, Dir: d.below(4) == 0, Anchored: d.below(4) == 0}
}

// someRules: rules by chance; now and then more than may be.
func (d *dice) someRules() []api.Rule {
	n := d.below(6)
	if d.below(20) == 0 {
		n += api.MaxRules
	}
	var out []api.Rule
	for range n {
		out = append(out, d.rule())
	}
	return out
}

// held: what the walk tells is what the words say.
func held(t *testing.T, x *tree.Tree, l []api.Rule) []api.Entry {
	t.Helper()
	got, want := List(x, l), plainList(x, l)
	if !slices.Equal(got, want) {
		t.Fatalf("of %q under %v:\n%v, want\n%v", x.Paths(), l, got, want)
	}
	if each := slices.Collect(Each(x, l)); !slices.Equal(each, want) {
		t.Fatalf("Each tells %v, List %v", each, got)
	}
	return got
}

// The chapter's examples.
func TestExamples(t *testing.T) {
	x := made(t, dir("d"), file("d/a", "abc"), name("d/a", "d/b"), link("l", "d"))
	want := []api.Entry{
		{Path: "d", Kind: api.Dir, Size: 2, Meta: someMeta},
		{Path: "d/a", Kind: api.File, Size: 3, Meta: someMeta, Group: 1},
		{Path: "d/b", Kind: api.File, Size: 3, Meta: someMeta, Group: 1},
		{Path: "l", Kind: api.Link, Size: 1, Meta: fullMeta, Target: "d"},
	}
	l := List(x, nil)
	if !slices.Equal(l, want) {
		t.Error(l)
	}
	if n := Total(l); n != [4]int{2, 1, 1, 3} {
		t.Error(n)
	}
}

// Entries: Size of a directory counts what is not seen, too; a link is not followed; the top has none.
func TestEntries(t *testing.T) {
	x := made(t, dir(".remora"), file(".remora/x", "x"), dir("a"), file("a/hid", "12"), dir("a/.remora"), file("a/.remora/y", ""), dir("a/e"), link("a.b", "a/e/.."), link("z", strings.Repeat("z", 200)), file("max", strings.Repeat("m", 65536)), dir(".remorax"), file(".remor", "7"))
	want := []api.Entry{
		{Path: ".remor", Kind: api.File, Size: 1, Meta: someMeta},
		{Path: ".remorax", Kind: api.Dir, Meta: someMeta},
		{Path: "a", Kind: api.Dir, Size: 3, Meta: someMeta},
		{Path: "a/.remora", Kind: api.Dir, Size: 1, Meta: someMeta},
		{Path: "a/.remora/y", Kind: api.File, Meta: someMeta},
		{Path: "a/e", Kind: api.Dir, Meta: someMeta},
		{Path: "a.b", Kind: api.Link, Size: 6, Meta: fullMeta, Target: "a/e/.."},
		{Path: "max", Kind: api.File, Size: 65536, Meta: someMeta},
		{Path: "z", Kind: api.Link, Size: 200, Meta: fullMeta, Target: strings.Repeat("z", 200)},
	}
	if l := List(x, lines(t, "- hid")); !slices.Equal(l, want) {
		t.Error(l)
	}
	held(t, x, nil)
	x.Set("", fullMeta)
	if l := List(x, lines(t, "- hid")); !slices.Equal(l, want) {
		t.Error("with another top:", l)
	}
}

// Reserved is the path ".remora", whatever stands there, and what is below it; nothing else.
func TestReserved(t *testing.T) {
	for _, steps := range [][]step{{file(".remora", "x")}, {link(".remora", "a")}, {dir(".remora"), dir(".remora/b"), file(".remora/b/c", ""), dir(".remora/.remora")}} {
		x := made(t, append(steps, dir("a"), file("a/.remora", ""), file(".Remora", ""), file(".remora.", ""))...)
		for _, l := range [][]api.Rule{nil, lines(t, "+ /.remora", "+ /.remora/**", "+ .remora", "+ *")} {
			if got := paths(List(x, l)); !slices.Equal(got, []string{".Remora", ".remora.", "a", "a/.remora"}) {
				t.Error(got)
			}
		}
	}
}

// Groups: of files alone that have several names, seen or not, numbered by the first ones that are seen.
func TestGroups(t *testing.T) {
	x := made(t, dir(".remora"), dir("d"), file("a", "1"), name("a", "d/z"), file("b", "2"), name("b", "c"), file("d/one", ""), file("e", "3"), name("e", ".remora/e"), name("b", "d/y"), link("l", "a"), dir("m"))
	for _, r := range []struct {
		rules []string
		want  map[string]int
	}{
		{nil, map[string]int{"a": 1, "d/z": 1, "b": 2, "c": 2, "d/y": 2, "e": 3}},
		{[]string{"- a"}, map[string]int{"b": 1, "c": 1, "d/y": 1, "d/z": 2, "e": 3}},
		{[]string{"- a", "- b", "- c"}, map[string]int{"d/y": 1, "d/z": 2, "e": 3}},
		{[]string{"- [abc]", "- y"}, map[string]int{"d/z": 1, "e": 2}},
		{[]string{"- d/", "- c"}, map[string]int{"a": 1, "b": 2, "e": 3}},
	} {
		got := map[string]int{}
		for _, e := range List(x, lines(t, r.rules...)) {
			if got[e.Path] = e.Group; e.Group == 0 {
				delete(got, e.Path)
			}
		}
		if len(got) != len(r.want) {
			t.Errorf("under %q: %v", r.rules, got)
		}
		for p, group := range r.want {
			if got[p] != group {
				t.Errorf("under %q: %v", r.rules, got)
			}
		}
	}
	x.Remove(".remora/e") // the name that is left is the only one
	if l := List(x, nil); l[len(l)-3].Path != "e" || l[len(l)-3].Group != 0 {
		t.Error(l)
	}
}

// Rules: what is below a hidden directory is hidden; the first that matches counts; safe and at risk is nothing here.
func TestRules(t *testing.T) {
	x := made(t, dir("a"), dir("a/b"), file("a/b/c.o", ""), file("a/c", ""), dir("b"), file("b/c", ""), link("c", "a"), file("x.o", ""))
	for _, r := range []struct {
		rules []string
		want  []string
	}{
		{[]string{"- *"}, nil},
		{[]string{"+ a", "- *"}, []string{"a"}},
		{[]string{"+ c", "- *"}, []string{"c"}},
		{[]string{"+ a", "+ c", "- *"}, []string{"a", "a/c", "c"}},
		{[]string{"+ */", "- *"}, []string{"a", "a/b", "b"}},
		{[]string{"- c/"}, []string{"a", "a/b", "a/b/c.o", "a/c", "b", "b/c", "c", "x.o"}},
		{[]string{"- b/", "+ b", "+ b/c"}, []string{"a", "a/c", "c", "x.o"}},
		{[]string{"- /b"}, []string{"a", "a/b", "a/b/c.o", "a/c", "c", "x.o"}},
		{[]string{"- a/b/**"}, []string{"a", "a/b", "a/c", "b", "b/c", "c", "x.o"}},
		{[]string{"+ a/b/c.o", "- *.o"}, []string{"a", "a/b", "a/b/c.o", "a/c", "b", "b/c", "c"}},
		{[]string{"P *", "R *", "- c"}, []string{"a", "a/b", "a/b/c.o", "b", "x.o"}},
	} {
		if got := paths(held(t, x, lines(t, r.rules...))); !slices.Equal(got, r.want) {
			t.Errorf("under %q: %q", r.rules, got)
		}
	}
}

// Rules that may not be match nothing; those beyond MaxRules count.
func TestWrongRules(t *testing.T) {
	x := made(t, dir("a"), file("a/b", ""), file("c", ""))
	all := []string{"a", "a/b", "c"}
	for _, r := range []api.Rule{{Act: 0, Pattern: "*"}, {Act: 5, Pattern: "*"}, {Act: -1, Pattern: "*"}, {Act: api.Exclude}, {Act: api.Exclude, Pattern: "/a"}, {Act: api.Exclude, Pattern: "a/"}, {Act: api.Exclude, Pattern: "["}, {Act: api.Exclude, Pattern: strings.Repeat("*", 101)}, {Act: api.Exclude, Pattern: "a\n"}} {
		if got := paths(List(x, []api.Rule{r})); !slices.Equal(got, all) {
			t.Errorf("under %v: %q", r, got)
		}
	}
	many := slices.Repeat([]api.Rule{{Act: api.Exclude, Pattern: "n"}}, 200)
	if got := paths(List(x, append(many, api.Rule{Act: api.Exclude, Pattern: "a"}))); !slices.Equal(got, []string{"c"}) {
		t.Errorf("%q", got)
	}
}

// P19.1, P19.2: trees by chance, under rules by chance.
func TestByChance(t *testing.T) {
	d := dice(19)
	hidden, groups := 0, 0
	for range 1500 {
		x, l := chance(&d), d.someRules()
		got := held(t, x, l)
		in := map[string]bool{"": true}
		ahead := ""
		for _, e := range got {
			above, _ := x.Stat(path.Parent(e.Path))
			if _, err := x.Stat(e.Path); err != api.OK || isReserved(e.Path) || !path.Less(ahead, e.Path) || !in[path.Parent(e.Path)] || above.Kind != api.Dir || e.Sum != "" {
				t.Fatal(e, "behind", ahead)
			}
			in[e.Path], ahead = true, e.Path
			groups = max(groups, e.Group)
		}
		all := paths(List(x, nil))
		if lacks := slices.DeleteFunc(x.Paths(), isReserved); !slices.Equal(all, lacks) {
			t.Fatalf("%q, want %q", all, lacks)
		}
		more := d.rule()
		more.Act = api.Exclude
		fewer := List(x, append(l, more))
		for _, e := range fewer {
			if !in[e.Path] {
				t.Fatalf("%v shows %q", more, e.Path)
			}
		}
		hidden += len(all) - len(fewer)
	}
	if hidden < 1000 || groups < 3 {
		t.Error("too few:", hidden, groups)
	}
}

// P19.3: behind each entry one may leave, and nothing more is told.
func TestLeft(t *testing.T) {
	x := made(t, dir("a"), dir("a/b"), file("a/b/c", ""), file("a/b/d", ""), dir("a/c"), file("a/c/d", ""), link("a.b", "a"), dir("e"), file("e/f", ""))
	all := List(x, nil)
	for n := 1; n <= len(all); n++ {
		var got []api.Entry
		Each(x, nil)(func(e api.Entry) bool {
			got = append(got, e)
			return len(got) < n
		})
		if !slices.Equal(got, all[:n]) {
			t.Errorf("left behind %d: %v", n, got)
		}
		for e := range Each(x, nil) {
			if e.Path == all[n-1].Path {
				break
			}
		}
	}
}

// P19.3: who leaves at the beginning has not gone through all of it.
func TestLeftEarly(t *testing.T) {
	x := tree.New()
	for i := range 100 {
		p := "d" + strconv.Itoa(1000+i)
		x.Mkdir(p, someMeta)
		for k := range 20 {
			x.Write(p+"/f"+strconv.Itoa(k), nil, someMeta)
		}
	}
	whole := testing.AllocsPerRun(1, func() {
		for range Each(x, nil) {
		}
	})
	early := testing.AllocsPerRun(1, func() {
		for range Each(x, nil) {
			break
		}
	})
	if early*20 > whole {
		t.Errorf("leaving at once costs %v, going through %v", early, whole)
	}
}

// Each tells the tree as it is when it is ranged over, under the rules as they were when it was called; once more, and one within another.
func TestEachAnew(t *testing.T) {
	x := made(t, dir("a"), file("a/b", ""), file("c", ""), name("c", "d"))
	l := lines(t, "- a/b", "- n")
	was := slices.Clone(l)
	each := Each(x, l)
	if !slices.Equal(l, was) {
		t.Error("Each changed the rules")
	}
	l[0].Pattern = "*"
	for range 2 {
		if got := paths(slices.Collect(each)); !slices.Equal(got, []string{"a", "c", "d"}) {
			t.Errorf("%q", got)
		}
	}
	for range each { // left, and then gone through from the beginning
		break
	}
	for outer := range each {
		n := 0
		for inner := range each {
			n++
			if inner.Path == outer.Path && inner != outer {
				t.Error(inner, outer)
			}
		}
		if n != 3 {
			t.Error("within:", n)
		}
	}
	x.Write("b", []byte("new"), someMeta)
	x.Link("b", "a/z")
	x.Remove("d")
	want := []api.Entry{{Path: "a", Kind: api.Dir, Size: 2, Meta: someMeta}, {Path: "a/z", Kind: api.File, Size: 3, Meta: someMeta, Group: 1}, {Path: "b", Kind: api.File, Size: 3, Meta: someMeta, Group: 1}, {Path: "c", Kind: api.File, Meta: someMeta}}
	if got := slices.Collect(each); !slices.Equal(got, want) {
		t.Error(got)
	}
}

// Of a nil tree nothing is told, and an empty one has nothing; what no New made does not panic.
func TestNothing(t *testing.T) {
	for _, x := range []*tree.Tree{nil, tree.New(), {}} {
		for _, l := range [][]api.Rule{nil, lines(t, "+ *"), lines(t, "- *")} {
			each := Each(x, l)
			if each == nil {
				t.Fatal("Each is nil")
			}
			for e := range each {
				t.Error(e)
			}
			if got := List(x, l); len(got) != 0 {
				t.Error(got)
			}
		}
	}
}

// A tree that is changed while it is gone through: nothing is promised, but it ends.
func TestChangedMeanwhile(t *testing.T) {
	d := dice(9)
	for range 50 {
		x := chance(&d)
		for e := range Each(x, nil) {
			switch d.below(4) {
			case 0:
				x.Remove(e.Path)
			case 1:
				x.Rename(e.Path, d.somePath())
			case 2:
				x.Mkdir(d.somePath(), someMeta)
			}
		}
	}
}

// sum: the strong sum, by Go's own.
func sum(b string) string {
	s := sha256.Sum256([]byte(b))
	return string(s[:])
}

// Sums: of a file's entry at whose path a file stands that one's sum, of all others none; all else stays.
func TestSums(t *testing.T) {
	long := strings.Repeat("long", 1<<14)
	x := made(t, dir("d"), file("d/a", "abc"), name("d/a", "d/b"), file("e", ""), link("l", "d/a"), file("long", long), dir(".remora"), file(".remora/x", "x"))
	was := x.Copy()
	l := []api.Entry{
		{Path: "long", Kind: api.File, Size: 1, Sum: "old"},
		{Path: "d/b", Kind: api.File, Meta: fullMeta, Target: "t", Group: -3},
		{Path: "d/a", Kind: api.File, Size: -9, Sum: strings.Repeat("s", 32), Group: 7},
		{Path: "d/a", Kind: api.File},
		{Path: "e", Kind: api.File},
		{Path: ".remora/x", Kind: api.File},
		{Path: "d/a", Kind: api.Dir, Sum: "old"},
		{Path: "d/a", Kind: api.Link, Sum: "old"},
		{Path: "d/a", Sum: "old"},
		{Path: "d/a", Kind: 4, Sum: "old"},
		{Path: "d", Kind: api.File, Sum: "old"},
		{Path: "l", Kind: api.File, Sum: "old"},
		{Path: "n", Kind: api.File, Sum: "old"},
		{Path: "e/n", Kind: api.File, Sum: "old"},
		{Path: "", Kind: api.File, Sum: "old"},
		{Path: "/d/a", Kind: api.File, Sum: "old"},
		{Path: "d//a", Kind: api.File, Sum: "old"},
		{Path: "d/./a", Kind: api.File, Sum: "old"},
	}
	sums := []string{sum(long), sum("abc"), sum("abc"), sum("abc"), sum(""), sum("x"), "", "", "", "", "", "", "", "", "", "", "", ""}
	handed := slices.Clone(l)
	got, none := Sums(x, handed), Sums(nil, handed)
	if !slices.Equal(handed, l) || !tree.Same(x, was) {
		t.Error("what was handed in was changed")
	}
	if len(got) != len(l) || len(none) != len(l) {
		t.Fatal(len(got), len(none))
	}
	for i, want := range l {
		want.Sum = sums[i]
		if got[i] != want {
			t.Errorf("%d: %v, want %v", i, got[i], want)
		}
		want.Sum = ""
		if none[i] != want {
			t.Errorf("%d, of a nil tree: %v, want %v", i, none[i], want)
		}
	}
	if got := Sums(x, nil); len(got) != 0 {
		t.Error(got)
	}
}

// Sums of whole lists, in their order, of trees by chance.
func TestSumsByChance(t *testing.T) {
	d := dice(3)
	for range 100 {
		x := chance(&d)
		l := List(x, d.someRules())
		slices.Reverse(l)
		got := Sums(x, l)
		for i, e := range l {
			if e.Kind == api.File {
				b, _ := x.Read(e.Path)
				e.Sum = sum(string(b))
			}
			if got[i] != e {
				t.Fatal(got[i], e)
			}
		}
	}
}

// Total: of any entries.
func TestTotal(t *testing.T) {
	file := func(size, group int) api.Entry { return api.Entry{Kind: api.File, Size: size, Group: group} }
	for i, r := range []struct {
		l    []api.Entry
		want [4]int
	}{
		{nil, [4]int{}},
		{[]api.Entry{{}, {Kind: 4, Size: 5}, {Kind: -1, Size: 5}, {Kind: math.MinInt, Size: 5}, {Kind: math.MaxInt, Size: 5}}, [4]int{}},
		{[]api.Entry{{Kind: api.Dir, Size: 5}, {Kind: api.Link, Size: 7}, {Kind: api.Link, Size: 7}, {Kind: api.Dir}, {Kind: api.Dir}}, [4]int{0, 3, 2, 0}},
		{[]api.Entry{file(1, 0), file(20, 0), file(300, 0)}, [4]int{3, 0, 0, 321}},
		{[]api.Entry{file(1, 1), file(20, 1), file(300, 2), file(4000, 1), file(50000, 2), file(600000, 0), file(7000000, 0)}, [4]int{7, 0, 0, 7600301}},
		{[]api.Entry{file(1, math.MaxInt), file(20, math.MaxInt), file(300, 9)}, [4]int{3, 0, 0, 301}},
		{[]api.Entry{file(1, -1), file(20, -1), file(300, math.MinInt), file(4000, math.MinInt)}, [4]int{4, 0, 0, 4321}},
		{[]api.Entry{{Kind: api.Dir, Size: 5, Group: 1}, {Kind: api.Link, Size: 5, Group: 1}, {Size: 5, Group: 1}, file(1, 1), {Kind: api.Dir, Size: 5, Group: 1}, file(20, 1)}, [4]int{2, 2, 1, 1}},
		{[]api.Entry{file(-5, 0), file(2, 0), file(-5, 1), file(9, 1)}, [4]int{4, 0, 0, -8}},
		{[]api.Entry{file(math.MaxInt, 0), file(2, 0)}, [4]int{2, 0, 0, math.MinInt + 1}},
	} {
		was := slices.Clone(r.l)
		if got := Total(r.l); got != r.want || !slices.Equal(r.l, was) {
			t.Errorf("%d: %v, want %v", i, got, r.want)
		}
	}
}

// What is told is new memory, and what is handed in is as it was.
func TestMemory(t *testing.T) {
	x := made(t, dir("d"), file("d/a", "abc"), name("d/a", "b"), link("l", "d"))
	was := x.Copy()
	row := lines(t, "- n", "- o", "P p")
	kept := slices.Clone(row)
	l := row[:2]
	want := plainList(x, l)
	for range 2 {
		got := List(x, l)
		if !slices.Equal(got, want) {
			t.Error(got)
		}
		told := Sums(x, got)
		clear(told[:cap(told)])
		if !slices.Equal(got, want) {
			t.Error("Sums shares memory")
		}
		clear(got[:cap(got)])
	}
	if !slices.Equal(row, kept) || !tree.Same(x, was) {
		t.Error("what was handed in was changed")
	}
}
