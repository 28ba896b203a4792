package tree

import (
	"bytes"
	"slices"
	"strconv"
	"strings"
	"testing"

	"remora/api"
	"remora/path"
)

var (
	plainMeta = api.Meta{Mode: 420}
	fullMeta  = api.Meta{Mode: 4095, Sec: 1 << 40, Nano: 999999999, Uid: 1<<31 - 1, Gid: 1<<31 - 1}
	leastMeta = api.Meta{Sec: -1 << 40}
	wrongMeta = api.Meta{Mode: 4096}
)

// call is a call that may change a tree, of both kinds of trees.
type call struct {
	name  string
	did   func(*Tree) api.Errno
	plain func(*plain) api.Errno
}

func mkdir(p string, m api.Meta) call {
	return call{"Mkdir " + p, func(t *Tree) api.Errno { return t.Mkdir(p, m) }, func(x *plain) api.Errno { return x.mkdir(p, m) }}
}

func write(p, b string, m api.Meta) call {
	return call{"Write " + p, func(t *Tree) api.Errno { return t.Write(p, []byte(b), m) }, func(x *plain) api.Errno { return x.write(p, b, m) }}
}

func appendTo(p, b string) call {
	return call{"Append " + p, func(t *Tree) api.Errno { return t.Append(p, []byte(b)) }, func(x *plain) api.Errno { return x.append(p, b) }}
}

func symlink(p, target string, m api.Meta) call {
	return call{"Symlink " + p, func(t *Tree) api.Errno { return t.Symlink(p, target, m) }, func(x *plain) api.Errno { return x.symlink(p, target, m) }}
}

func link(old, p string) call {
	return call{"Link " + old + " " + p, func(t *Tree) api.Errno { return t.Link(old, p) }, func(x *plain) api.Errno { return x.link(old, p) }}
}

func remove(p string) call {
	return call{"Remove " + p, func(t *Tree) api.Errno { return t.Remove(p) }, func(x *plain) api.Errno { return x.remove(p) }}
}

func rename(old, p string) call {
	return call{"Rename " + old + " " + p, func(t *Tree) api.Errno { return t.Rename(old, p) }, func(x *plain) api.Errno { return x.rename(old, p) }}
}

func set(p string, m api.Meta) call {
	return call{"Set " + p, func(t *Tree) api.Errno { return t.Set(p, m) }, func(x *plain) api.Errno { return x.set(p, m) }}
}

// file and dir: things for which no more than a path is to be said.
func file(p string) call { return write(p, "abc", plainMeta) }
func dir(p string) call  { return mkdir(p, plainMeta) }

// made: trees of both kinds, by calls that none refuses.
func made(t *testing.T, calls ...call) (*Tree, *plain) {
	t.Helper()
	x, y := New(), newPlain()
	for _, c := range calls {
		if err := c.did(x); err != api.OK {
			t.Fatal(c.name, int(err))
		}
		if err := c.plain(y); err != api.OK {
			t.Fatal("plain:", c.name, int(err))
		}
	}
	return x, y
}

// chain: n parts "k".
func chain(n int) string {
	return strings.Repeat("k/", n)[:2*n-1]
}

// long: a part of as many bytes as may be.
var long = strings.Repeat("L", 48)

// big: a tree with things of all kinds, of all depths, names and lengths.
func big(t *testing.T) (*Tree, *plain) {
	t.Helper()
	calls := []call{
		mkdir("a", fullMeta), dir("a/b"), write("a/b/f", "abc", leastMeta), link("a/b/f", "g"), symlink("l", "a/b", plainMeta), write("h", "", fullMeta),
		symlink("a/m", "../g", fullMeta), dir("e"), file("a.b"), link("g", "a/G"), write("max", strings.Repeat("x", 65535), plainMeta), symlink("lost", strings.Repeat("t", 200), plainMeta),
		dir(long), dir(long + "/" + long), dir(long + "/" + long + "/" + long), dir(long + "/" + long + "/" + long + "/" + long), file(long + "/" + long + "/" + long + "/" + long + "/xy"),
	}
	for n := range 11 {
		calls = append(calls, dir(chain(n+1)))
	}
	return made(t, calls...)
}

// asked: paths at which much or nothing stands in it, or that are none.
func asked() []string {
	row := long + "/" + long + "/" + long + "/" + long
	return []string{
		"", "a", "a/b", "a/b/f", "a/G", "g", "l", "l/f", "lost", "h", "h/x", "h/x/y", "a/m", "a/m/x", "a.b", "max", "e", "e/n", "n", "n/x", "n/x/y", "a/b/n", "a/b/n/n",
		"e/", "/e", "a//b", ".", "..", "a/..", "a/./b", "a\x00", "/", long + "x", long, long + "/" + long, row, row + "/xy", row + "/abcd", row + "/abcde",
		"k", "k/k", "e/k", "e/e/e", chain(11), chain(12), chain(13), "e/" + long, "ee/" + long, "ab", "a/b/k",
	}
}

// every: all calls of those paths, with metas and texts that may be, and such that may not.
func every() []call {
	var out []call
	for _, p := range asked() {
		out = append(out, remove(p))
		for _, m := range []api.Meta{leastMeta, wrongMeta} {
			out = append(out, mkdir(p, m), set(p, m))
			for _, n := range []int{0, 1, 200, 201} {
				out = append(out, symlink(p, strings.Repeat("/", n), m))
			}
			for _, n := range []int{0, 2, 65536, 65537} {
				out = append(out, write(p, strings.Repeat("y", n), m))
			}
		}
		for _, n := range []int{0, 1, 2, 65536, 65537} {
			out = append(out, appendTo(p, strings.Repeat("z", n)))
		}
		for _, q := range asked() {
			out = append(out, link(p, q), rename(p, q))
		}
	}
	return out
}

// held: the tree is as the plain one, at all of those paths, and at its own.
func held(t *testing.T, after string, got *Tree, want *plain, paths []string) {
	t.Helper()
	all := want.below("")
	if l := got.Paths(); !slices.Equal(l, all) || got.Count() != len(all) {
		t.Fatalf("behind %q: Paths: %q, %d, want %q", after, l, got.Count(), all)
	}
	for _, p := range append(all, paths...) {
		s, err := got.Stat(p)
		if want, wantErr := want.stat(p); s != want || err != wantErr {
			t.Fatalf("behind %q: Stat(%q): %v %d, want %v %d", after, p, s, int(err), want, int(wantErr))
		}
		b, err := got.Read(p)
		if want, wantErr := want.read(p); string(b) != want || err != wantErr {
			t.Fatalf("behind %q: Read(%q): %.20q %d, want %.20q %d", after, p, b, int(err), want, int(wantErr))
		}
		l, err := got.List(p)
		if want, wantErr := want.list(p); !slices.Equal(l, want) || err != wantErr {
			t.Fatalf("behind %q: List(%q): %q %d, want %q %d", after, p, l, int(err), want, int(wantErr))
		}
		if l := got.Names(p); !slices.Equal(l, want.names(p)) {
			t.Fatalf("behind %q: Names(%q): %q, want %q", after, p, l, want.names(p))
		}
	}
}

// P17.1: the top alone.
func TestNew(t *testing.T) {
	x := New()
	want := api.Stat{Kind: api.Dir, Ino: 1, Links: 1, Meta: api.Meta{Mode: 493}}
	if s, err := x.Stat(""); s != want || err != api.OK {
		t.Error(s, err)
	}
	if l, err := x.List(""); len(l) != 0 || err != api.OK {
		t.Error(l, err)
	}
	if x.Count() != 0 || len(x.Paths()) != 0 || len(x.Names("")) != 0 {
		t.Error(x.Count(), x.Paths(), x.Names(""))
	}
	if New() == x || !Same(New(), x) {
		t.Error("two new ones")
	}
}

// P17.1: a nil tree tells ErrNil ahead of all else, or nothing.
func TestNil(t *testing.T) {
	var x *Tree
	for _, c := range every() {
		if err := c.did(x); err != api.ErrNil {
			t.Error(c.name, int(err))
		}
	}
	for _, p := range asked() {
		s, err := x.Stat(p)
		if s != (api.Stat{}) || err != api.ErrNil {
			t.Error("Stat", p, s, int(err))
		}
		if b, err := x.Read(p); b != nil || err != api.ErrNil {
			t.Error("Read", p, b, int(err))
		}
		if l, err := x.List(p); l != nil || err != api.ErrNil {
			t.Error("List", p, l, int(err))
		}
		if l := x.Names(p); len(l) != 0 {
			t.Error("Names", p, l)
		}
	}
	if len(x.Paths()) != 0 || x.Count() != 0 || x.Copy() != nil {
		t.Error(x.Paths(), x.Count(), x.Copy())
	}
	if !Same(nil, nil) || Same(New(), nil) || Same(nil, New()) {
		t.Error("Same of nil")
	}
}

// What no New made is open, but does not panic.
func TestZero(t *testing.T) {
	for _, c := range every() {
		c.did(&Tree{})
	}
	x := &Tree{}
	for _, p := range asked() {
		x.Stat(p)
		x.Read(p)
		x.List(p)
		x.Names(p)
	}
	x.Paths()
	x.Count()
	x.Copy()
	Same(x, x)
	Same(x, New())
	Same(New(), x)
}

// P17.2 to P17.8, P17.12: each call on the great tree answers and does what the plain one does; with an error nothing. Number and all, and to a Copy alone.
func TestEveryCall(t *testing.T) {
	x, y := big(t)
	held(t, "all", x, y, asked())
	met := map[string]int{}
	for i, c := range every() {
		got, want := x.Copy(), y.copy()
		err, wantErr := c.did(got), c.plain(want)
		if err != wantErr {
			t.Fatalf("%q: %d, want %d", c.name, int(err), int(wantErr))
		}
		met[strings.Fields(c.name)[0]+" "+strconv.Itoa(int(err))]++
		if same := Same(got, x); same != alike(want, y) || same != Same(x, got) || err != api.OK && !same {
			t.Fatalf("%q: Same: %v", c.name, same)
		}
		if i%4 == 0 || err == api.OK {
			held(t, c.name, got, want, asked())
		}
		next := mkdir("next", plainMeta)
		next.did(got)
		next.plain(want)
		s, _ := got.Stat("next")
		if want, _ := want.stat("next"); s != want {
			t.Fatalf("%q: the next one: %v, want %v", c.name, s, want)
		}
	}
	held(t, "all calls on copies", x, y, asked())
	for name, errs := range map[string][]api.Errno{
		"Mkdir":   {api.OK, api.ErrName, api.ErrArg, api.ErrNone, api.ErrNotDir, api.ErrThere},
		"Symlink": {api.OK, api.ErrName, api.ErrArg, api.ErrBig, api.ErrNone, api.ErrNotDir, api.ErrThere},
		"Write":   {api.OK, api.ErrName, api.ErrArg, api.ErrBig, api.ErrNone, api.ErrNotDir, api.ErrIsDir, api.ErrKind},
		"Append":  {api.OK, api.ErrName, api.ErrNone, api.ErrNotDir, api.ErrIsDir, api.ErrKind, api.ErrBig},
		"Link":    {api.OK, api.ErrName, api.ErrNone, api.ErrNotDir, api.ErrIsDir, api.ErrKind, api.ErrThere},
		"Remove":  {api.OK, api.ErrName, api.ErrArg, api.ErrNone, api.ErrNotDir, api.ErrBusy},
		"Rename":  {api.OK, api.ErrName, api.ErrArg, api.ErrNone, api.ErrNotDir, api.ErrIsDir, api.ErrThere, api.ErrBig},
		"Set":     {api.OK, api.ErrName, api.ErrArg, api.ErrNone, api.ErrNotDir},
	} {
		for _, err := range errs {
			if met[name+" "+strconv.Itoa(int(err))] == 0 {
				t.Error(name, "never told", int(err))
			}
		}
	}
}

// dice: numbers that look like chance.
type dice uint32

func (d *dice) below(n int) int {
	*d = *d*1664525 + 1013904223
	return int(*d>>8) % n
}

// path: one of few paths, so that much is met again.
func (d *dice) path() string {
	parts := []string{"a", "b", "c", "d.x", long}
	var out []string
	for range 1 + d.below(4) {
		out = append(out, parts[d.below(len(parts))])
	}
	if d.below(50) == 0 {
		out = append(out, "..")
	}
	return strings.Join(out, "/")
}

// call: some call.
func (d *dice) call() call {
	p, q := d.path(), d.path()
	m := []api.Meta{plainMeta, fullMeta, leastMeta}[d.below(3)]
	text := strings.Repeat("x", []int{0, 1, 5, 40000}[d.below(4)])
	switch d.below(12) {
	case 0, 1, 2:
		return mkdir(p, m)
	case 3, 4:
		return write(p, text, m)
	case 5:
		return appendTo(p, text)
	case 6:
		return symlink(p, q, m)
	case 7:
		return link(p, q)
	case 8:
		return remove(p)
	case 9, 10:
		return rename(p, q)
	}
	return set(p, m)
}

// P17.1 to P17.10: long rows of calls, each answered as the plain tree does.
func TestLongRows(t *testing.T) {
	for seed := range 40 {
		d := dice(seed)
		x, y := New(), newPlain()
		for i := range 500 {
			c := d.call()
			if err, want := c.did(x), c.plain(y); err != want {
				t.Fatalf("%d: %q: %d, want %d", seed, c.name, int(err), int(want))
			}
			if i%25 == 0 {
				held(t, c.name, x, y, nil)
				whole(t, x)
			}
			if i%100 == 50 { // on it goes on a copy
				x = x.Copy()
			}
		}
	}
}

// whole (P17.11): what is promised of all that stands in a tree.
func whole(t *testing.T, x *Tree) {
	t.Helper()
	all := x.Paths()
	sizes := map[string]int{}
	for i, p := range all {
		if i > 0 && !path.Less(all[i-1], p) {
			t.Error("out of order:", p)
		}
		sizes[path.Parent(p)]++
		if s, err := x.Stat(path.Parent(p)); err != api.OK || s.Kind != api.Dir {
			t.Error("above", p, s, int(err))
		}
		s, _ := x.Stat(p)
		names := x.Names(p)
		if s.Links != len(names) || !slices.Contains(names, p) {
			t.Error("names of", p, s, names)
		}
	}
	for _, p := range append(all, "") {
		l, _ := x.List(p)
		if s, _ := x.Stat(p); s.Kind == api.Dir && (s.Size != sizes[p] || len(l) != sizes[p]) {
			t.Error("size of", p, s, l)
		}
	}
	if x.Count() != len(all) {
		t.Error(x.Count(), len(all))
	}
}

// told is a call, and what it is to answer.
type told struct {
	c   call
	err api.Errno
}

// answers: each call on a copy of the tree.
func answers(t *testing.T, x *Tree, rows []told) {
	t.Helper()
	for _, r := range rows {
		if err := r.c.did(x.Copy()); err != r.err {
			t.Errorf("%q: %d, want %d", r.c.name, int(err), int(r.err))
		}
	}
}

// The chapter's examples.
func TestExamples(t *testing.T) {
	x, _ := made(t, file("a"), link("a", "b"))
	if s, err := x.Stat("b"); err != api.OK || s.Links != 2 {
		t.Error(s, err)
	}
	if err := x.Write("b", []byte("new"), plainMeta); err != api.OK {
		t.Error(err)
	}
	if b, err := x.Read("a"); string(b) != "new" || err != api.OK {
		t.Errorf("%q %d", b, int(err))
	}
	if err := x.Rename("a", "b"); err != api.OK || !slices.Equal(x.Paths(), []string{"a", "b"}) {
		t.Error(err, x.Paths())
	}
	answers(t, x, []told{{dir("d/e"), api.ErrNone}, {dir("a/e"), api.ErrNotDir}})
	y, _ := made(t, file("d"))
	answers(t, y, []told{{dir("d/e"), api.ErrNotDir}})
	z, _ := made(t, dir("d"))
	answers(t, z, []told{{rename("d", "d/e"), api.ErrArg}})
}

// Words: looking a path up, by what stands right above it.
func TestLookedUp(t *testing.T) {
	x, _ := made(t, dir("d"), file("f"), symlink("l", "d", plainMeta), file("d/g"))
	rows := []struct {
		p   string
		err api.Errno
	}{
		{"", api.OK}, {"d", api.OK}, {"f", api.OK}, {"l", api.OK}, {"d/g", api.OK},
		{"n", api.ErrNone}, {"d/n", api.ErrNone}, {"n/n", api.ErrNone}, {"d/n/n", api.ErrNone},
		{"f/x", api.ErrNotDir}, {"l/g", api.ErrNotDir}, {"d/g/x", api.ErrNotDir},
		// Nothing stands at "f/x": so that is no file, but nothing.
		{"f/x/y", api.ErrNone}, {"l/g/x", api.ErrNone}, {"f/x/y/z", api.ErrNone},
		{"/", api.ErrName}, {"d/", api.ErrName}, {"/d", api.ErrName}, {"d//g", api.ErrName}, {".", api.ErrName}, {"d/..", api.ErrName}, {"f/x/..", api.ErrName}, {"n\x00", api.ErrName},
		{strings.Repeat("x", 48), api.ErrNone}, {strings.Repeat("x", 49), api.ErrName}, {chain(12), api.ErrNone}, {chain(13), api.ErrName}, {strings.Repeat("d/", 1<<20), api.ErrName},
	}
	for _, r := range rows {
		_, err := x.Stat(r.p)
		if err != r.err {
			t.Errorf("Stat(%.30q): %d, want %d", r.p, int(err), int(r.err))
		}
		if r.err != api.OK {
			answers(t, x, []told{{appendTo(r.p, ""), r.err}, {set(r.p, plainMeta), r.err}, {remove(r.p), r.err}, {link(r.p, "new"), r.err}, {rename(r.p, "new"), r.err}})
		}
	}
}

// P17.3 to P17.7: of several errors the one that is named first.
func TestFirstError(t *testing.T) {
	x, _ := made(t, dir("d"), dir("d/e"), file("f"), symlink("l", "d", plainMeta), write("full", strings.Repeat("x", 65536), plainMeta))
	wide, far := strings.Repeat("x", 65537), strings.Repeat("t", 201)
	answers(t, x, []told{
		{mkdir("d/", wrongMeta), api.ErrName}, {mkdir("d", wrongMeta), api.ErrArg}, {mkdir("n/n", wrongMeta), api.ErrArg}, {mkdir("", plainMeta), api.ErrThere}, {mkdir("f", plainMeta), api.ErrThere}, {mkdir("l", plainMeta), api.ErrThere},
		{symlink("d/", "", wrongMeta), api.ErrName}, {symlink("d/", far, plainMeta), api.ErrName}, {symlink("s", "", wrongMeta), api.ErrArg}, {symlink("s", far, wrongMeta), api.ErrArg}, {symlink("d", "", plainMeta), api.ErrArg},
		{symlink("n/n", far, plainMeta), api.ErrBig}, {symlink("d", far, plainMeta), api.ErrBig}, {symlink("f/n", "t", plainMeta), api.ErrNotDir}, {symlink("", "t", plainMeta), api.ErrThere}, {symlink("l", "d", plainMeta), api.ErrThere},
		{write("d/", wide, wrongMeta), api.ErrName}, {write("d", wide, wrongMeta), api.ErrArg}, {write("d", wide, plainMeta), api.ErrBig}, {write("n/n", wide, plainMeta), api.ErrBig}, {write("n/n", "", plainMeta), api.ErrNone},
		{write("f/n", "", plainMeta), api.ErrNotDir}, {write("", "", plainMeta), api.ErrIsDir}, {write("d", "", plainMeta), api.ErrIsDir}, {write("l", "", plainMeta), api.ErrKind},
		{appendTo("d", wide), api.ErrIsDir}, {appendTo("", wide), api.ErrIsDir}, {appendTo("l", wide), api.ErrKind}, {appendTo("n", wide), api.ErrNone}, {appendTo("full", "x"), api.ErrBig}, {appendTo("full", ""), api.OK},
		{link("n", "d/"), api.ErrName}, {link("d/", "n"), api.ErrName}, {link("n", "d"), api.ErrNone}, {link("f/n", "d"), api.ErrNotDir}, {link("d", "n/n"), api.ErrIsDir}, {link("", "n/n"), api.ErrIsDir}, {link("l", "f/n"), api.ErrKind},
		{link("f", "n/n"), api.ErrNone}, {link("f", "f/n"), api.ErrNotDir}, {link("f", "f"), api.ErrThere}, {link("f", ""), api.ErrThere}, {link("f", "d"), api.ErrThere}, {link("f", "l"), api.ErrThere},
		{set("d/", wrongMeta), api.ErrName}, {set("n", wrongMeta), api.ErrArg}, {set("f/n", wrongMeta), api.ErrArg}, {set("n", plainMeta), api.ErrNone}, {set("", plainMeta), api.OK},
		{remove("/"), api.ErrName}, {remove(""), api.ErrArg}, {remove("d"), api.ErrBusy}, {remove("d/e"), api.OK},
		{rename("", "d/"), api.ErrName}, {rename("d/", ""), api.ErrName}, {rename("", "n"), api.ErrArg}, {rename("n", ""), api.ErrArg}, {rename("", ""), api.ErrArg}, {rename("n", "d/e"), api.ErrNone}, {rename("f/n", "d/e"), api.ErrNotDir},
		{rename("d", "d/n/n"), api.ErrArg}, {rename("d", "d/e"), api.ErrArg}, {rename("d", "dd"), api.OK}, {rename("d", "n/n"), api.ErrNone}, {rename("d", "f/n"), api.ErrNotDir}, {rename("d", "d"), api.ErrThere}, {rename("d", "f"), api.ErrThere}, {rename("d/e", "d"), api.ErrThere},
		{rename("f", "d"), api.ErrIsDir}, {rename("l", "d"), api.ErrIsDir}, {rename("f", "f/n"), api.ErrNotDir}, {rename("f", "n/n"), api.ErrNone}, {rename("f", "f"), api.OK}, {rename("l", "l"), api.OK}, {rename("f", "l"), api.OK}, {rename("l", "f"), api.OK},
	})
}

// P17.2: kinds that are asked for what they have not.
func TestKinds(t *testing.T) {
	x, _ := made(t, dir("d"), file("d/f"), symlink("l", "d", plainMeta))
	for p, want := range map[string]api.Errno{"": api.ErrIsDir, "d": api.ErrIsDir, "l": api.ErrKind, "d/f": api.OK, "n": api.ErrNone} {
		if b, err := x.Read(p); err != want || err != api.OK && b != nil {
			t.Error("Read", p, b, int(err))
		}
	}
	for p, want := range map[string]api.Errno{"": api.OK, "d": api.OK, "l": api.ErrNotDir, "d/f": api.ErrNotDir, "n": api.ErrNone} {
		if l, err := x.List(p); err != want || err != api.OK && l != nil {
			t.Error("List", p, l, int(err))
		}
	}
	for _, r := range []struct {
		p    string
		want api.Stat
	}{
		{"d", api.Stat{Kind: api.Dir, Ino: 2, Size: 1, Links: 1, Meta: plainMeta}},
		{"d/f", api.Stat{Kind: api.File, Ino: 3, Size: 3, Links: 1, Meta: plainMeta}},
		{"l", api.Stat{Kind: api.Link, Ino: 4, Size: 1, Links: 1, Meta: plainMeta, Target: "d"}},
	} {
		if s, err := x.Stat(r.p); s != r.want || err != api.OK {
			t.Error(r.p, s, int(err))
		}
	}
}

// P17.2, P17.8: parts rise byte by byte, paths part by part.
func TestOrder(t *testing.T) {
	x, _ := made(t, dir("a"), file("a.b"), file("a b"), file("a/b"), file("\xff"), file("é"), file("B"), file("\x01"), file("a/\xff"))
	if l, _ := x.List(""); !slices.Equal(l, []string{"\x01", "B", "a", "a b", "a.b", "é", "\xff"}) {
		t.Errorf("%q", l)
	}
	if l := x.Paths(); !slices.Equal(l, []string{"\x01", "B", "a", "a/b", "a/\xff", "a b", "a.b", "é", "\xff"}) {
		t.Errorf("%q", l)
	}
	for _, p := range []string{"a.c", "a/c", "a d"} {
		if err := x.Link("a.b", p); err != api.OK {
			t.Error(p, err)
		}
	}
	if l := x.Names("a/c"); !slices.Equal(l, []string{"a/c", "a d", "a.b", "a.c"}) {
		t.Errorf("%q", l)
	}
}

// P17.3 to P17.5: metas at their limits, and beyond, of each call that takes one.
func TestMetas(t *testing.T) {
	x, _ := made(t, file("f"))
	for _, m := range []api.Meta{
		{Mode: -1}, {Mode: 4096}, {Sec: 1<<40 + 1}, {Sec: -1<<40 - 1}, {Nano: -1}, {Nano: 1000000000}, {Uid: -1}, {Uid: 1 << 31}, {Gid: -1}, {Gid: 1 << 31}, {Mode: -1 << 63, Sec: 1<<63 - 1},
	} {
		answers(t, x, []told{{mkdir("n", m), api.ErrArg}, {write("n", "", m), api.ErrArg}, {write("f", "", m), api.ErrArg}, {symlink("n", "t", m), api.ErrArg}, {set("f", m), api.ErrArg}, {set("", m), api.ErrArg}})
	}
	for _, m := range []api.Meta{{}, {Mode: 4095}, {Sec: 1 << 40}, {Sec: -1 << 40}, {Nano: 999999999}, {Uid: 1<<31 - 1}, {Gid: 1<<31 - 1}, fullMeta} {
		for _, c := range []call{mkdir("n", m), write("n", "", m), symlink("n", "t", m)} {
			y := x.Copy()
			err := c.did(y)
			if s, _ := y.Stat("n"); err != api.OK || s.Meta != m {
				t.Error(c.name, m, s, int(err))
			}
		}
		for _, c := range []call{write("f", "", m), set("f", m)} {
			y := x.Copy()
			err := c.did(y)
			if s, _ := y.Stat("f"); err != api.OK || s.Meta != m {
				t.Error(c.name, m, s, int(err))
			}
		}
		y := x.Copy()
		err := y.Set("", m)
		if s, _ := y.Stat(""); err != api.OK || s.Meta != m {
			t.Error("the top", m, s, int(err))
		}
	}
}

// Words: numbers count what is new, and come no second time.
func TestNumbers(t *testing.T) {
	x, _ := made(t, file("a"), dir("d"), remove("a"), remove("d"), symlink("l", "t", plainMeta), file("b"), link("b", "c"), write("b", "new", plainMeta), rename("b", "l"), file("e"))
	for p, want := range map[string]int{"": 1, "l": 5, "c": 5, "e": 6} {
		if s, err := x.Stat(p); s.Ino != want || err != api.OK {
			t.Error(p, s, int(err))
		}
	}
}

// P17.4, P17.5, P17.8: what is done by one name is done by all.
func TestNames(t *testing.T) {
	x, _ := made(t, dir("d"), file("b"), link("b", "d/a"), link("d/a", "a"), appendTo("a", "d"), set("d/a", fullMeta), file("other"))
	names := []string{"a", "b", "d/a"}
	for _, p := range names {
		if s, _ := x.Stat(p); s != (api.Stat{Kind: api.File, Ino: 3, Size: 4, Links: 3, Meta: fullMeta}) {
			t.Error(p, s)
		}
		if l := x.Names(p); !slices.Equal(l, names) {
			t.Error(p, l)
		}
	}
	for p, want := range map[string][]string{"d": {"d"}, "other": {"other"}, "": nil, "n": nil, "a/n": nil, "d/": nil, "d//a": nil} {
		if l := x.Names(p); !slices.Equal(l, want) {
			t.Error(p, l)
		}
	}
	// Name by name it goes, and the file with the last one.
	for i, p := range names {
		if err := x.Remove(p); err != api.OK {
			t.Error(p, err)
		}
		if l := x.Names("d/a"); !slices.Equal(l, names[i+1:]) {
			t.Error(p, l)
		}
	}
	if l := x.Paths(); !slices.Equal(l, []string{"d", "other"}) {
		t.Error(l)
	}
}

// P17.4: a file that is written anew has that, and nothing of what it had.
func TestWriteAndAppend(t *testing.T) {
	x, _ := made(t, write("f", "longer", fullMeta), write("f", "new", leastMeta))
	if s, _ := x.Stat("f"); s != (api.Stat{Kind: api.File, Ino: 2, Size: 3, Links: 1, Meta: leastMeta}) {
		t.Error(s)
	}
	all := []byte("new")
	for _, n := range []int{0, 1, 2, 3000, 62530} {
		b := bytes.Repeat([]byte{byte(n), '\n'}, n)[:n]
		all = append(all, b...)
		if err := x.Append("f", b); err != api.OK {
			t.Error(n, err)
		}
		if got, err := x.Read("f"); !bytes.Equal(got, all) || err != api.OK {
			t.Error(n, len(got), err)
		}
	}
	if err := x.Append("f", []byte("x")); len(all) != 65536 || err != api.ErrBig {
		t.Error(len(all), err)
	}
	if got, _ := x.Read("f"); !bytes.Equal(got, all) {
		t.Error("refused, but done:", len(got))
	}
	if s, _ := x.Stat("f"); s.Meta != leastMeta || s.Size != 65536 {
		t.Error(s)
	}
}

// P17.7: what stands at the new name goes: that name, and not the file's other ones.
func TestReplaced(t *testing.T) {
	x, _ := made(t, file("a"), write("b", "bb", fullMeta), link("b", "c"), symlink("l", "a", leastMeta), rename("a", "b"), rename("l", "a"))
	want := map[string]api.Stat{
		"a": {Kind: api.Link, Ino: 4, Size: 1, Links: 1, Meta: leastMeta, Target: "a"},
		"b": {Kind: api.File, Ino: 2, Size: 3, Links: 1, Meta: plainMeta},
		"c": {Kind: api.File, Ino: 3, Size: 2, Links: 1, Meta: fullMeta},
	}
	for p, want := range want {
		if s, err := x.Stat(p); s != want || err != api.OK {
			t.Error(p, s, int(err))
		}
	}
	if l := x.Paths(); !slices.Equal(l, []string{"a", "b", "c"}) {
		t.Error(l)
	}
}

// P17.7: below a directory that is moved no path may grow beyond what a path may be; exactly so far it may.
func TestMovedTooFar(t *testing.T) {
	x, _ := big(t)
	answers(t, x, []told{
		{rename("k", "e/k"), api.OK}, {rename("k", "a/b/k"), api.ErrBig}, {rename("k/k", "a/b/k"), api.OK},
		{rename(long, "e/"+long), api.OK}, {rename(long, "aa"), api.OK}, {rename(long+"/"+long, "a/b/"+long), api.OK}, {rename(long, "a/b/"+long), api.ErrBig},
	})
	if err := x.Rename("e", "ee"); err != api.OK {
		t.Fatal(err)
	}
	answers(t, x, []told{{rename(long, "ee/"+long), api.ErrBig}, {rename(long, "ee/"+long[1:]), api.OK}})
	// With more behind that one, at all depths.
	for n := range 11 {
		if err := x.Write(chain(n+1)+"/z", nil, plainMeta); err != api.OK {
			t.Fatal(n, err)
		}
	}
	answers(t, x, []told{{rename("k", "ee/k"), api.ErrBig}, {rename("k", "z"), api.OK}, {rename("k/k", "ee/k"), api.OK}, {rename("k/k", "a/b/k"), api.ErrBig}})
}

// P17.13: what is moved is what it was; back again all is as it was.
func TestThereAndBack(t *testing.T) {
	x, y := big(t)
	moved := 0
	for _, old := range asked() {
		for _, p := range asked() {
			if _, err := x.Stat(p); err == api.OK {
				continue
			}
			was, _ := x.Stat(old)
			if x.Rename(old, p) != api.OK {
				continue
			}
			moved++
			is, _ := x.Stat(p)
			if _, err := x.Stat(old); is != was || err == api.OK {
				t.Fatal(old, p, is, was)
			}
			if err := x.Rename(p, old); err != api.OK {
				t.Fatal(p, old, int(err))
			}
		}
	}
	held(t, "all moves", x, y, asked())
	if moved < 100 {
		t.Error(moved)
	}
}

// P17.13: what stands below goes with it, whole.
func TestMovedWhole(t *testing.T) {
	x, _ := made(t, dir("d"), dir("d/e"), file("d/e/f"), link("d/e/f", "g"), symlink("d/l", "e", plainMeta), dir("n"), rename("d", "n/m"))
	if l := x.Paths(); !slices.Equal(l, []string{"g", "n", "n/m", "n/m/e", "n/m/e/f", "n/m/l"}) {
		t.Error(l)
	}
	if l := x.Names("g"); !slices.Equal(l, []string{"g", "n/m/e/f"}) {
		t.Error(l)
	}
	if s, _ := x.Stat("n/m"); s.Ino != 2 || s.Size != 2 {
		t.Error(s)
	}
	if err := x.Write("d", nil, plainMeta); err != api.OK { // its name is free
		t.Error(err)
	}
}

// P17.10: no other call touches a meta, those of the directories included.
func TestMetasStay(t *testing.T) {
	x, _ := made(t, mkdir("d", fullMeta), write("d/f", "", leastMeta), set("", fullMeta), mkdir("e", leastMeta),
		appendTo("d/f", "x"), link("d/f", "d/g"), rename("d/g", "e/g"), remove("e/g"), symlink("d/l", "t", plainMeta), rename("d", "e/d"))
	for p, want := range map[string]api.Meta{"": fullMeta, "e/d": fullMeta, "e/d/f": leastMeta, "e": leastMeta, "e/d/l": plainMeta} {
		if s, err := x.Stat(p); s.Meta != want || err != api.OK {
			t.Error(p, s, int(err))
		}
	}
}

// P17.9: trees that differ in one thing; numbers do not count.
func TestSame(t *testing.T) {
	rows := []struct {
		a, b []call
		want bool
	}{
		{nil, nil, true},
		{[]call{file("a"), dir("b")}, []call{dir("b"), file("a")}, true},
		{[]call{file("x"), remove("x"), file("a")}, []call{file("a")}, true},
		{[]call{file("a"), link("a", "b")}, []call{file("b"), link("b", "a")}, true},
		{[]call{file("a"), link("a", "b")}, []call{file("a"), file("b")}, false},
		{[]call{file("a"), link("a", "b"), file("c")}, []call{file("a"), file("b"), link("b", "c")}, false},
		{[]call{file("a"), link("a", "b"), file("c"), link("c", "d")}, []call{file("a"), link("a", "c"), file("b"), link("b", "d")}, false},
		{[]call{file("a"), link("a", "b"), file("c"), link("c", "d")}, []call{file("d"), link("d", "c"), file("b"), link("b", "a")}, true},
		{[]call{file("a"), link("a", "b"), file("c"), link("c", "d")}, []call{file("a"), link("a", "b"), link("b", "c"), link("c", "d")}, false},
		{[]call{file("a")}, []call{dir("a")}, false},
		{[]call{write("a", "", plainMeta)}, []call{dir("a")}, false},
		{[]call{write("a", "t", plainMeta)}, []call{symlink("a", "t", plainMeta)}, false},
		{[]call{symlink("a", "t", plainMeta)}, []call{symlink("a", "u", plainMeta)}, false},
		{[]call{file("a")}, []call{file("b")}, false},
		{[]call{file("a")}, []call{file("a"), file("b")}, false},
		{[]call{dir("a")}, []call{dir("a"), file("a/b")}, false},
		{[]call{dir("a"), dir("b"), file("a/x")}, []call{dir("a"), dir("b"), file("b/x")}, false},
		{[]call{write("a", "x", plainMeta)}, []call{write("a", "y", plainMeta)}, false},
		{[]call{file("a")}, []call{write("a", "abc", leastMeta)}, false},
		{[]call{dir("a")}, []call{mkdir("a", leastMeta)}, false},
		{[]call{symlink("a", "t", plainMeta)}, []call{symlink("a", "t", leastMeta)}, false},
		{[]call{set("", plainMeta)}, nil, false},
		{[]call{set("", api.Meta{Mode: 493})}, nil, true},
		{[]call{set("", api.Meta{Mode: 493, Gid: 1})}, nil, false},
	}
	for i, r := range rows {
		a, x := made(t, r.a...)
		b, y := made(t, r.b...)
		if Same(a, b) != r.want || Same(b, a) != r.want || alike(x, y) != r.want {
			t.Error(i, Same(a, b), Same(b, a), alike(x, y))
		}
	}
}

// P17.9, P17.12: a copy goes its own way, and so do the copies of copies.
func TestCopy(t *testing.T) {
	x, y := big(t)
	c := x.Copy()
	held(t, "Copy", c, y, asked())
	d := c.Copy()
	for _, p := range []string{"g", "max"} {
		if err := c.Append(p, []byte("c")); err != api.OK {
			t.Error(p, err)
		}
	}
	for _, step := range []call{write("h", "c", leastMeta), file("e/c"), remove("lost"), rename("k", "kk"), set("", leastMeta), set("a", leastMeta), link("a.b", "e/b")} {
		if err := step.did(c); err != api.OK {
			t.Error(step.name, err)
		}
	}
	held(t, "changes to its copy", x, y, asked())
	held(t, "changes to what it was copied of", d, y, asked())
	if b, _ := c.Read("a/b/f"); string(b) != "abcc" {
		t.Errorf("%q", b)
	}
	if Same(c, x) || !Same(d, x) {
		t.Error("Same")
	}
}

// P17.10: what is handed in may be changed behind the call, and what is told as well.
func TestMemory(t *testing.T) {
	x, y := made(t, dir("d"), write("d/f", "abcabc", plainMeta), link("d/f", "d/g"), file("h"))
	b := []byte("abc-----")[:3]
	x.Write("d/f", b, plainMeta)
	x.Append("d/f", b)
	copy(b, "xyz")
	if string(b[:8]) != "xyz-----" {
		t.Errorf("%q", b[:8])
	}
	for range 2 {
		held(t, "what was told was changed", x, y, nil)
		got, _ := x.Read("d/f")
		got = got[:cap(got)]
		clear(got)
		one, _ := x.List("d")
		for _, l := range [][]string{one, x.Paths(), x.Names("d/f"), x.Names("h")} {
			clear(l[:cap(l)])
		}
	}
}

// P17.10: calls that only look change nothing.
func TestLooking(t *testing.T) {
	x, y := big(t)
	for range 2 {
		held(t, "looking", x, y, asked())
		if !Same(x, x) || !Same(x, x.Copy()) || !Same(x.Copy(), x) {
			t.Error("Same")
		}
	}
}

// Many things at once end soon.
func TestMany(t *testing.T) {
	x := New()
	for i := range 20000 {
		p := "f" + strconv.Itoa(i)
		err := x.Write(p, nil, plainMeta)
		if i%2 == 1 {
			err = x.Remove(p)
			if err == api.OK {
				err = x.Link("f0", p)
			}
		}
		if err != api.OK {
			t.Fatal(p, err)
		}
	}
	if s, _ := x.Stat("f1"); s.Links != 10001 || x.Count() != 20000 || len(x.Names("f7")) != 10001 || len(x.Paths()) != 20000 || !Same(x, x.Copy()) {
		t.Error(s, x.Count())
	}
}
