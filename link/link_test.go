package link

import (
	"slices"
	"strconv"
	"strings"
	"testing"

	"remora/api"
	"remora/path"
	"remora/tree"
)

var someMeta = api.Meta{Mode: 420}

// plainResolve: the path followed by the chapter's words, with a row of parts that are still to go.
func plainResolve(t *tree.Tree, p string) (string, api.Errno) {
	if t == nil {
		return "", api.ErrNil
	}
	if !path.Right(p) {
		return "", api.ErrName
	}
	place, row, met := "", path.Split(p), 0
	for len(row) > 0 {
		part := row[0]
		row = row[1:]
		if s, _ := t.Stat(place); s.Kind != api.Dir {
			return "", api.ErrNotDir
		}
		if part == "" || part == "." {
			continue
		}
		if part == ".." {
			if place == "" {
				return "", api.ErrOut
			}
			place = path.Parent(place)
			continue
		}
		below := strings.TrimPrefix(place+"/"+part, "/")
		s, err := t.Stat(below)
		if err != api.OK {
			return "", api.ErrNone
		}
		if s.Kind != api.Link {
			place = below
			continue
		}
		if met == 16 {
			return "", api.ErrLoop
		}
		met++
		if s.Target[0] == '/' {
			place = ""
		}
		row = append(strings.Split(s.Target, "/"), row...)
	}
	return place, api.OK
}

// plainSafe: is the target safe there, as the chapter's words have it?
func plainSafe(p, target string) bool {
	if !path.Right(p) || p == "" || target == "" || target[0] == '/' {
		return false
	}
	parts := slices.DeleteFunc(strings.Split(target, "/"), func(s string) bool { return s == "" || s == "." })
	ups := 0
	for i, part := range parts {
		if part != ".." {
			continue
		}
		ups++
		if i > 0 && parts[i-1] != ".." {
			return false
		}
	}
	return ups <= len(strings.Split(p, "/"))-1
}

// texts: all texts of at most so many of the signs.
func texts(most int, signs string) []string {
	out := []string{""}
	from := 0
	for range most {
		to := len(out)
		for _, s := range out[from:to] {
			for i := range len(signs) {
				out = append(out, s+signs[i:i+1])
			}
		}
		from = to
	}
	return out
}

// dice: numbers that look like chance.
type dice uint32

func (d *dice) below(n int) int {
	*d = *d*1664525 + 1013904223
	return int(*d>>8) % n
}

// of: one of those.
func (d *dice) of(l []string) string {
	return l[d.below(len(l))]
}

// short: the paths of up to three of three parts each, and the top.
func short() []string {
	out := []string{""}
	from := 0
	for range 3 {
		to := len(out)
		for _, p := range out[from:to] {
			for _, part := range []string{"a", "b", "c"} {
				out = append(out, strings.TrimPrefix(p+"/"+part, "/"))
			}
		}
		from = to
	}
	return out
}

// targets: where links lead to, by chance.
func targets() []string {
	return []string{
		"a", "b", "c", "a/b", "b/c", "c/a", "..", "../a", "../b", "../c", "../..", "../../a", "../../b/c", ".", "./a", "a/", "a//b", "a/.", "a/..", "b/../c", "a/./../b", "/", "/a", "/b/c", "//c", "/..", "/a/..", "...", "n", "a/n", "../../..", "./../a", "..//b", "/.remora/a", "a\x00", strings.Repeat("a/", 90),
	}
}

// chance: a tree whose links have targets that keep lets through, and files of several names.
func chance(seed int, keep func(p, target string) bool) *tree.Tree {
	d, t := dice(seed), tree.New()
	l := short()[1:]
	for range 150 {
		p, target := d.of(l), d.of(targets())
		switch d.below(8) {
		case 0, 1:
			t.Mkdir(p, someMeta)
		case 2:
			t.Write(p, []byte(p), someMeta)
		case 3, 4:
			t.Link(d.of(append(t.Paths(), p)), p)
		default:
			if keep(p, target) {
				t.Symlink(p, target, someMeta)
			}
		}
	}
	return t
}

// all: keeps each target.
func all(p, target string) bool { return true }

// step is a call that makes something of a tree, and must be taken.
type step func(*tree.Tree) api.Errno

func dir(p string) step { return func(t *tree.Tree) api.Errno { return t.Mkdir(p, someMeta) } }
func file(p string) step {
	return func(t *tree.Tree) api.Errno { return t.Write(p, []byte(p), someMeta) }
}
func name(old, p string) step { return func(t *tree.Tree) api.Errno { return t.Link(old, p) } }
func to(p, target string) step {
	return func(t *tree.Tree) api.Errno { return t.Symlink(p, target, someMeta) }
}

// made: the tree of those steps.
func made(t *testing.T, steps ...step) *tree.Tree {
	t.Helper()
	x := tree.New()
	for i, s := range steps {
		if err := s(x); err != api.OK {
			t.Fatal(i, int(err))
		}
	}
	return x
}

// row is a path, and where it leads.
type row struct {
	p, place string
	err      api.Errno
}

// leads: each path is resolved like that.
func leads(t *testing.T, x *tree.Tree, rows []row) {
	t.Helper()
	for _, r := range rows {
		if p, err := Resolve(x, r.p); p != r.place || err != r.err {
			t.Errorf("Resolve(%.60q): %q %d, want %q %d", r.p, p, int(err), r.place, int(r.err))
		}
	}
}

// chain: n parts "k".
func chain(n int) string {
	return strings.Repeat("k/", n)[:2*n-1]
}

// The chapter's examples.
func TestExamples(t *testing.T) {
	x := made(t, dir("d"), file("d/e"), to("l", "d/e"), to("x", "x"), to("a", ".."))
	leads(t, x, []row{{"l", "d/e", api.OK}, {"x", "", api.ErrLoop}, {"a", "", api.ErrOut}})
	if !Safe("a/b", "../c") || Safe("a", "../c") || Safe("a", "c/..") || Safe("a/b", "../../c") {
		t.Error("Safe")
	}
}

// links: a tree with links of all kinds.
func links(t *testing.T) *tree.Tree {
	t.Helper()
	return made(t, dir("d"), dir("d/e"), file("d/e/f"), file("f"), name("f", "d/g"),
		to("top", "/"), to("tops", "///"), to("d/same", "."), to("d/up", ".."), to("d/e/up", "../.."), to("d/e/out", "../../.."), to("d/e/outs", "/.."),
		to("abs", "/d//e/"), to("d/abs", "/f"), to("d/rel", "e/f"), to("d/back", "e/../e/./f"), to("d/two", "../d/rel"),
		to("slash", "f/"), to("dot", "f/."), to("dots", "f/.."), to("none", "d/n"), to("nones", "d/n/.."), to("through", "f/x"), to("fine", "d/up/d/up/f"))
}

// P18.1: targets of all kinds, by rows.
func TestResolveRows(t *testing.T) {
	leads(t, links(t), []row{
		{"", "", api.OK}, {"d", "d", api.OK}, {"d/e/f", "d/e/f", api.OK}, {"d/g", "d/g", api.OK},
		{"top", "", api.OK}, {"top/f", "f", api.OK}, {"tops", "", api.OK}, {"top/top/d/up", "", api.OK}, {"d/same", "d", api.OK}, {"d/same/g", "d/g", api.OK}, {"d/up", "", api.OK}, {"d/up/f", "f", api.OK}, {"d/e/up/d", "d", api.OK},
		{"d/e/out", "", api.ErrOut}, {"d/e/out/d", "", api.ErrOut}, {"d/e/outs", "", api.ErrOut},
		{"abs", "d/e", api.OK}, {"abs/f", "d/e/f", api.OK}, {"abs/up/f", "f", api.OK}, {"d/abs", "f", api.OK}, {"d/rel", "d/e/f", api.OK}, {"d/back", "d/e/f", api.OK}, {"d/two", "d/e/f", api.OK}, {"fine", "f", api.OK},
		// What is no directory is one for nobody, not even for what would leave it where it is.
		{"slash", "", api.ErrNotDir}, {"dot", "", api.ErrNotDir}, {"dots", "", api.ErrNotDir}, {"through", "", api.ErrNotDir}, {"f/x", "", api.ErrNotDir}, {"f/x/y", "", api.ErrNotDir}, {"d/rel/x", "", api.ErrNotDir}, {"d/abs/x/y", "", api.ErrNotDir},
		{"n", "", api.ErrNone}, {"d/n", "", api.ErrNone}, {"n/n", "", api.ErrNone}, {"d/n/n", "", api.ErrNone}, {"none", "", api.ErrNone}, {"nones", "", api.ErrNone}, {"top/n", "", api.ErrNone},
		{"/", "", api.ErrName}, {"d/", "", api.ErrName}, {"/d", "", api.ErrName}, {"d//e", "", api.ErrName}, {".", "", api.ErrName}, {"..", "", api.ErrName}, {"d/..", "", api.ErrName}, {"d\x00", "", api.ErrName},
		{strings.Repeat("x", 49), "", api.ErrName}, {strings.Repeat("x", 48), "", api.ErrNone}, {chain(12), "", api.ErrNone}, {chain(13), "", api.ErrName}, {strings.Repeat("d/", 1<<20), "", api.ErrName},
	})
	if p, err := Resolve(nil, "/"); p != "" || err != api.ErrNil {
		t.Error("of a nil tree:", p, int(err))
	}
	if p, err := Resolve(nil, ""); p != "" || err != api.ErrNil {
		t.Error("of a nil tree:", p, int(err))
	}
}

// P18.1: parts that no path has, and places below which no path goes, have nothing.
func TestResolveBeyondPaths(t *testing.T) {
	long := strings.Repeat("L", 48)
	steps := []step{to("part", strings.Repeat("x", 49)), to("zero", "a\x00"), to("wide", strings.Repeat("x", 200)), to("dots", "..."), to("deep", chain(12)+"/n"), to("deeper", chain(12)+"/n/.."), to("still", chain(12)+"/."), to("far", long+"/"+long+"/"+long+"/"+long+"/abcd"), to("farther", "far/e/..")}
	for n := range 12 {
		steps = append(steps, dir(chain(n+1)))
	}
	for n := range 4 {
		steps = append(steps, dir(strings.Repeat(long+"/", n)+long))
	}
	x := made(t, append(steps, dir(long+"/"+long+"/"+long+"/"+long+"/abcd"), to("f", long+"/"+long), to("ff", long+"/"+long+"/abc/def"))...)
	leads(t, x, []row{
		{"part", "", api.ErrNone}, {"zero", "", api.ErrNone}, {"wide", "", api.ErrNone}, {"dots", "", api.ErrNone}, {"deep", "", api.ErrNone}, {"deeper", "", api.ErrNone}, {"still", chain(12), api.OK},
		{"far", long + "/" + long + "/" + long + "/" + long + "/abcd", api.OK}, {"farther", "", api.ErrNone}, {"far/e", "", api.ErrNone}, {"f/" + long + "/" + long + "/abcd", long + "/" + long + "/" + long + "/" + long + "/abcd", api.OK}, {"f/" + long + "/" + long + "/abcde", "", api.ErrNone}, {"ff", "", api.ErrNone},
	})
}

// P18.1: as many links as may be, one behind the other, and beside each other; one more is ErrLoop, ahead of what is wrong with its target.
func TestHops(t *testing.T) {
	steps := []step{file("f"), to("l1", "f"), to("top", "/"), to("here", "."), dir("d"), to("d/up", "..")}
	for n := 2; n <= 18; n++ {
		steps = append(steps, to("l"+strconv.Itoa(n), "l"+strconv.Itoa(n-1)))
	}
	steps = append(steps, to("a", "b"), to("b", "a"), to("x", "x"), to("y", "y/y"), to("tops16", strings.Repeat("top/", 15)+"f"), to("tops17", strings.Repeat("top/", 16)+"f"), to("wrong17", strings.Repeat("top/", 16)+"n"), to("out", ".."), to("out17", strings.Repeat("top/", 15)+"out"), to("out18", strings.Repeat("top/", 16)+"out"))
	leads(t, made(t, steps...), []row{
		{"l1", "f", api.OK}, {"l15", "f", api.OK}, {"l16", "f", api.OK}, {"l17", "", api.ErrLoop}, {"l18", "", api.ErrLoop}, {"a", "", api.ErrLoop}, {"b", "", api.ErrLoop}, {"x", "", api.ErrLoop}, {"x/n", "", api.ErrLoop}, {"y", "", api.ErrLoop},
		{"tops16", "f", api.OK}, {"tops17", "", api.ErrLoop}, {"wrong17", "", api.ErrLoop}, {"out17", "", api.ErrLoop}, {"out18", "", api.ErrLoop}, {"out", "", api.ErrOut},
		{strings.Repeat("top/", 11) + "l5", "f", api.OK}, {strings.Repeat("top/", 11) + "l6", "", api.ErrLoop}, {"d/up/d/up/d/up/l13", "f", api.OK}, {"d/up/d/up/d/up/l14", "", api.ErrLoop}, {"here/here/here", "", api.OK},
	})
}

// P18.1, P18.5: trees by chance, all short paths: each leads where the words say, and that is no link, and itself.
func TestResolveByChance(t *testing.T) {
	met := map[api.Errno]int{}
	for seed := range 400 {
		x := chance(seed, all)
		for _, p := range short() {
			place, err := Resolve(x, p)
			if want, wantErr := plainResolve(x, p); place != want || err != wantErr {
				t.Fatalf("%d: Resolve(%q): %q %d, want %q %d", seed, p, place, int(err), want, int(wantErr))
			}
			met[err]++
			if err != api.OK {
				continue
			}
			if again, err := Resolve(x, place); again != place || err != api.OK {
				t.Fatalf("%d: Resolve(%q): %q %d", seed, place, again, int(err))
			}
			if hasLink(x, place) {
				t.Fatalf("%d: %q leads to a link: %q", seed, p, place)
			}
		}
		for _, p := range x.Paths() {
			if place, err := Resolve(x, p); !hasLink(x, p) && (place != p || err != api.OK) {
				t.Fatalf("%d: %q, without links, leads to %q %d", seed, p, place, int(err))
			}
		}
	}
	for _, err := range []api.Errno{api.OK, api.ErrNone, api.ErrNotDir, api.ErrLoop, api.ErrOut} {
		if met[err] == 0 {
			t.Error("never told:", int(err))
		}
	}
}

// hasLink: is a link at p, or above it?
func hasLink(x *tree.Tree, p string) bool {
	for ; p != ""; p = path.Parent(p) {
		if s, _ := x.Stat(p); s.Kind == api.Link {
			return true
		}
	}
	return false
}

// P18.4: with safe targets alone no path leads out, by whatever links.
func TestWithin(t *testing.T) {
	kept, followed := 0, 0
	for seed := range 1000 {
		x := chance(seed, func(p, target string) bool { return Safe(p, target) })
		for _, p := range x.Paths() {
			if s, _ := x.Stat(p); s.Kind == api.Link && strings.HasPrefix(s.Target, "..") {
				kept++
			}
		}
		for _, p := range short() {
			place, err := Resolve(x, p)
			if err == api.ErrOut {
				t.Fatalf("%d: %q leads out", seed, p)
			}
			if err == api.OK && place != p {
				followed++
			}
		}
	}
	if kept < 100 || followed < 1000 {
		t.Error("too few:", kept, followed)
	}
}

// P18.2: all short targets, at paths of all depths, and at what is none.
func TestSafe(t *testing.T) {
	paths := []string{"a", "a/b", "a/b/c", "a/b/c/d", ".remora", chain(12), "", "/", "a/", "/a", "a//b", "a/..", ".", "..", chain(13), "a\x00", strings.Repeat("x", 49)}
	l := append(texts(8, "./a"), targets()...)
	for _, p := range paths {
		for _, target := range l {
			if got := Safe(p, target); got != plainSafe(p, target) {
				t.Fatalf("Safe(%q, %q): %v", p, target, got)
			}
		}
	}
}

// P18.2: by rows.
func TestSafeRows(t *testing.T) {
	ups := func(n int) string { return strings.Repeat("../", n) }
	for _, r := range []struct {
		p, target string
		want      bool
	}{
		{"a", "b", true}, {"a", "b/c", true}, {"a", ".", true}, {"a", "./", true}, {"a", "...", true}, {"a", "..b", true}, {"a", "b..", true}, {"a", "a\x00", true}, {"a", strings.Repeat("x", 1<<20), true},
		{"a", "", false}, {"a", "/", false}, {"a", "/a", false}, {"a", "..", false}, {"a", "./..", false}, {"a", "b/..", false},
		{"a/b", "..", true}, {"a/b", "./..", true}, {"a/b", ".//../", true}, {"a/b", "../.", true}, {"a/b", "../..", false}, {"a/b", "..//./..", false}, {"a/b", "../c/..", false}, {"a/b", "c/../..", false}, {"a/b", "./c/./..", false}, {"a/b", "/..", false},
		{"a/b/c", "../..", true}, {"a/b/c", "../../d", true}, {"a/b/c", "../../..", false}, {"a/b/c", "../d/../e", false}, {chain(12), ups(11) + "x", true}, {chain(12), ups(12) + "x", false},
		{"", "a", false}, {"", ".", false}, {"a/", "b", false}, {"/a/b", "c", false}, {"a//b", "..", false}, {"a/../b", "c", false}, {chain(13), "a", false}, {strings.Repeat("x", 49), "a", false},
	} {
		if got := Safe(r.p, r.target); got != r.want {
			t.Errorf("Safe(%.20q, %.40q): %v", r.p, r.target, got)
		}
	}
}

// P18.2, P18.6: any text is made harmless, and back; what was not made so is told so.
func TestMungeAndPlain(t *testing.T) {
	l := append(texts(5, "./a"), targets()...)
	l = append(l, "", "/.remora", "/.remora/", "/.remora//.remora/x", "/.remorax", "/.remora.", ".remora/a", "//.remora/a", "/.Remora/a", "\xff", strings.Repeat("x", 1<<20))
	for _, s := range l {
		if got := Munge(s); got != "/.remora/"+s {
			t.Errorf("Munge(%.40q): %.40q", s, got)
		}
		if got, ok := Plain(Munge(s)); got != s || !ok {
			t.Errorf("Plain of Munge(%.40q): %.40q %v", s, got, ok)
		}
		for _, p := range []string{"a", "a/b", chain(12), ""} {
			if Safe(p, Munge(s)) {
				t.Errorf("Safe(%q, Munge(%.40q))", p, s)
			}
		}
		want, ok := "", len(s) >= 9 && s[:9] == "/.remora/"
		if ok {
			want = s[9:]
		}
		if got, is := Plain(s); got != want || is != ok {
			t.Errorf("Plain(%.40q): %.40q %v", s, got, is)
		}
	}
}

// P18.3: groups and leaders, by hand.
func TestGroups(t *testing.T) {
	x := made(t, dir("a"), file("z"), file("m"), file("one"), name("z", "a/z"), name("m", "a.b"), name("z", "a.c"), to("l", "z"), dir("l2"), name("m", "a/a"))
	groups := [][]string{{"a/a", "a.b", "m"}, {"a/z", "a.c", "z"}}
	if l := Groups(x); !slices.EqualFunc(l, groups, slices.Equal) {
		t.Error(l)
	}
	for p, want := range map[string]string{"a/a": "a/a", "a.b": "a/a", "m": "a/a", "z": "a/z", "a/z": "a/z", "one": "", "a": "", "l": "", "l2": "", "": "", "n": "", "z/n": "", "a/": "", "l/x": ""} {
		if got, ok := Leader(x, p); got != want || ok != (want != "") {
			t.Errorf("Leader(%q): %q %v", p, got, ok)
		}
	}
	if l := Groups(nil); len(l) != 0 {
		t.Error(l)
	}
	for _, p := range []string{"", "a", "a/"} {
		if got, ok := Leader(nil, p); got != "" || ok {
			t.Error(got, ok)
		}
	}
	if l := Groups(tree.New()); len(l) != 0 {
		t.Error(l)
	}
	if err := x.Remove("m"); err != api.OK {
		t.Error(err)
	}
	if err := x.Remove("a/a"); err != api.OK { // the one that is left is alone
		t.Error(err)
	}
	if l := Groups(x); !slices.EqualFunc(l, groups[1:], slices.Equal) {
		t.Error(l)
	}
}

// P18.3, P18.7: of trees by chance: each name of several is in one group, that of its number, and each group's first one leads.
func TestGroupsByChance(t *testing.T) {
	several := 0
	deep := func(p, target string) bool { return path.Depth(p) > 2 } // so that more room is left for files
	for seed := range 400 {
		x := chance(seed, deep)
		met := map[string]bool{}
		ahead := ""
		for _, group := range Groups(x) {
			several++
			if len(group) < 2 || !slices.Equal(group, x.Names(group[0])) || !path.Less(ahead, group[0]) {
				t.Fatal(seed, group, ahead)
			}
			ahead = group[0]
			first, _ := x.Stat(ahead)
			for _, p := range group {
				s, err := x.Stat(p)
				if met[p] || err != api.OK || s.Ino != first.Ino {
					t.Fatal(seed, p, group)
				}
				met[p] = true
				if got, ok := Leader(x, p); got != ahead || !ok {
					t.Fatal(seed, p, got, ok)
				}
			}
		}
		for _, p := range x.Paths() {
			s, _ := x.Stat(p)
			got, ok := Leader(x, p)
			if several := s.Kind == api.File && s.Links > 1; several != met[p] || several != ok || !ok && got != "" {
				t.Fatal(seed, p, s, got, ok)
			}
		}
	}
	if several < 100 {
		t.Error("too few:", several)
	}
}

// What is told is new memory, and the tree is as it was.
func TestMemory(t *testing.T) {
	x := made(t, dir("d"), file("f"), name("f", "d/f"), file("g"), name("g", "d/g"), to("l", "d/f"))
	was := x.Copy()
	for range 2 {
		l := Groups(x)
		if !slices.EqualFunc(l, [][]string{{"d/f", "f"}, {"d/g", "g"}}, slices.Equal) {
			t.Error(l)
		}
		for i := range l {
			l[i] = append(l[i], "more")
		}
		for i := range l {
			if len(l[i]) != 3 || l[i][2] != "more" {
				t.Error(l)
			}
			clear(l[i][:cap(l[i])])
		}
		leads(t, x, []row{{"l", "d/f", api.OK}, {"l/x", "", api.ErrNotDir}})
		Leader(x, "f")
	}
	if !tree.Same(x, was) {
		t.Error("changed")
	}
}

// What no New made is open, but does not panic.
func TestZero(t *testing.T) {
	x := &tree.Tree{}
	for _, p := range short() {
		Resolve(x, p)
		Leader(x, p)
	}
	Groups(x)
}

// Targets as long and as winding as may be end soon.
func TestLong(t *testing.T) {
	steps := []step{dir("d"), to("d/up", strings.Repeat("./", 80)+"..")}
	for i := range 15 {
		steps = append(steps, to("w"+strconv.Itoa(i), strings.Repeat("d/../", 38)+"w"+strconv.Itoa(i+1)))
	}
	x := made(t, append(steps, to("w15", "d"))...)
	leads(t, x, []row{{"w0", "d", api.OK}, {"w1/up", "", api.OK}, {"w0/up", "", api.ErrLoop}})
	many := tree.New()
	for i := range 3000 {
		p := "f" + strconv.Itoa(i)
		many.Write(p, nil, someMeta)
		many.Link(p, "g"+strconv.Itoa(i))
	}
	if l := Groups(many); len(l) != 3000 || !slices.Equal(l[0], []string{"f0", "g0"}) {
		t.Error(len(l))
	}
}
