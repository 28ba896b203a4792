package path

import (
	"slices"
	"strings"
	"testing"

	"remora/api"
)

// plainParts: the parts of any text, as the chapter's words have them.
func plainParts(s string) []string {
	if s == "" {
		return nil
	}
	return strings.Split(s, "/")
}

// plainRight: is p a path, as the chapter's words have it?
func plainRight(p string) bool {
	for _, part := range plainParts(p) {
		if part == "" || part == "." || part == ".." || len(part) > 48 || strings.Contains(part, "\x00") {
			return false
		}
	}
	return len(plainParts(p)) <= 12 && len(p) <= 200
}

// plainClean: what Clean is to answer.
func plainClean(s string) (string, api.Errno) {
	var kept []string
	for _, part := range plainParts(s) {
		switch {
		case part == "" || part == ".":
			continue
		case part == "..":
			return "", api.ErrOut
		case strings.Contains(part, "\x00"):
			return "", api.ErrName
		case len(part) > 48:
			return "", api.ErrBig
		}
		kept = append(kept, part)
	}
	p := strings.Join(kept, "/")
	if len(kept) > 12 || len(p) > 200 {
		return "", api.ErrBig
	}
	return p, api.OK
}

// plainCommon: the parts that both begin with.
func plainCommon(a, b string) []string {
	x, y := plainParts(a), plainParts(b)
	n := 0
	for n < len(x) && n < len(y) && x[n] == y[n] {
		n++
	}
	return x[:n]
}

// texts: all texts of at most so many of the signs.
func texts(most int, signs string) []string {
	out := []string{""}
	from := 0
	for range most {
		to := len(out)
		for _, s := range out[from:to] {
			for i := range len(signs) {
				out = append(out, s+signs[i:i+1])
			}
		}
		from = to
	}
	return out
}

// row: n parts of that length each.
func row(n, size int) string {
	return strings.Repeat(strings.Repeat("x", size)+"/", n)[:n*(size+1)-1]
}

// odd: texts of many kinds, long ones and such whose bytes are no runes too.
func odd() []string {
	full := row(12, 15) + "123456789" // 200 bytes in 12 parts
	return []string{
		"a", "a/b", "a/b/c", "a.b", "a b", "a\tb", "ab", "abc", "a/bc", "...", "a/...", ".a", "a.", "..a", "a..", ".remora", ".remora/x",
		"é/ü", "\xe2/\x82", "\xe2\x82/\xac", "\xc0\xaf", "\xff/\xfe", "a\xff", "a\x01", "a\x00", "a\x00/..", "../a\x00", "\x00/" + row(13, 1),
		row(12, 1), row(13, 1), row(12, 1) + "/", row(12, 1) + "/.", row(13, 1) + "/..", row(13, 1) + "/\x00",
		row(1, 48), row(1, 49), row(4, 48), row(5, 48), row(4, 48) + "/abcd", row(4, 48) + "/abcde", row(5, 48) + "/..", row(1, 49) + "/..", "../" + row(1, 49),
		"\x00" + row(1, 49), row(1, 49) + "\x00", row(1, 49) + "/\x00", full, full + "x", full + "/", "/" + full, "./" + full, full[:199], full + "/..", strings.Repeat("/", 3000), strings.Repeat("./", 3000) + "a",
		"/", "//", "/a", "a/", "a//b", "//a/./b/", "./a", "a/.", "a/./b", ".", "..", "./..", "a/..", "a/../b", "../a", "/..", "a/b/../c",
	}
}

// all: those, and all short ones.
func all() []string {
	return append(texts(5, "/.ab\x00"), odd()...)
}

// paths: those of all that are paths, each once.
func paths() []string {
	var out []string
	for _, p := range all() {
		if plainRight(p) && !slices.Contains(out, p) {
			out = append(out, p)
		}
	}
	return out
}

// Which texts are paths, at the limits and beyond them.
func TestRight(t *testing.T) {
	rows := []struct {
		p    string
		want bool
	}{
		{"", true}, {"a", true}, {"a/b", true}, {"...", true}, {".a/..b", true}, {"\xff", true}, {"a b", true}, {"\x01", true},
		{".", false}, {"..", false}, {"/", false}, {"/a", false}, {"a/", false}, {"a//b", false}, {"a/./b", false}, {"a/..", false}, {"a\x00b", false}, {"a/\x00", false},
		{row(1, api.MaxPart), true}, {row(1, api.MaxPart+1), false}, {"a/" + row(1, api.MaxPart+1), false},
		{row(api.MaxDepth, 1), true}, {row(api.MaxDepth+1, 1), false},
		{row(4, 48) + "/abcd", true}, {row(4, 48) + "/abcde", false},
	}
	for _, r := range rows {
		if got := Right(r.p); got != r.want {
			t.Errorf("Right(%q) = %v", r.p, got)
		}
	}
	for _, p := range all() {
		if got := Right(p); got != plainRight(p) {
			t.Errorf("Right(%q) = %v", p, got)
		}
	}
}

// Clean: the chapter's examples, which error is first, and all as the chapter says it.
func TestClean(t *testing.T) {
	rows := []struct {
		s, want string
		err     api.Errno
	}{
		{"//a/./b/", "a/b", api.OK}, {"a/../b", "", api.ErrOut}, {"", "", api.OK}, {"/", "", api.OK}, {"././.", "", api.OK}, {"a", "a", api.OK},
		{"..", "", api.ErrOut}, {"a\x00", "", api.ErrName}, {"..\x00", "", api.ErrName}, {row(1, 49), "", api.ErrBig}, {row(1, 49) + "\x00", "", api.ErrName},
		{"../\x00/" + row(1, 49), "", api.ErrOut}, {"\x00/../" + row(1, 49), "", api.ErrName}, {row(1, 49) + "/../\x00", "", api.ErrBig},
		{row(12, 1), row(12, 1), api.OK}, {row(13, 1), "", api.ErrBig}, {row(13, 1) + "/..", "", api.ErrOut}, {row(13, 1) + "/\x00", "", api.ErrName},
		{row(5, 48), "", api.ErrBig}, {row(5, 48) + "/..", "", api.ErrOut}, {row(4, 48) + "//abcd/", row(4, 48) + "/abcd", api.OK}, {row(4, 48) + "/abcde", "", api.ErrBig},
		{strings.Repeat("/./", 1000) + "a", "a", api.OK}, {"\xe2/\x82", "\xe2/\x82", api.OK}, {"\xc0\xaf", "\xc0\xaf", api.OK},
	}
	for _, r := range rows {
		if got, err := Clean(r.s); got != r.want || err != r.err {
			t.Errorf("Clean(%q) = %q, %d", r.s, got, err)
		}
	}
	for _, s := range all() {
		got, err := Clean(s)
		want, wanted := plainClean(s)
		if got != want || err != wanted {
			t.Errorf("Clean(%q) = %q, %d", s, got, err)
		}
	}
}

// P13.1.
func TestCleanIsRight(t *testing.T) {
	told := 0
	for _, s := range all() {
		p, err := Clean(s)
		if err != api.OK {
			continue
		}
		told++
		if !Right(p) {
			t.Errorf("Clean(%q) = %q is no path", s, p)
		}
		if again, err := Clean(p); again != p || err != api.OK {
			t.Errorf("Clean(%q) = %q, %d", p, again, err)
		}
	}
	if told < 500 {
		t.Error("too few paths:", told)
	}
	for _, p := range paths() {
		if got, err := Clean(p); got != p || err != api.OK {
			t.Errorf("Clean(%q) = %q, %d", p, got, err)
		}
	}
}

// Join: as Clean, of all texts.
func TestJoin(t *testing.T) {
	rows := []struct {
		l    []string
		want string
		err  api.Errno
	}{
		{nil, "", api.OK}, {[]string{""}, "", api.OK}, {[]string{"", "", "."}, "", api.OK}, {[]string{"a", "b"}, "a/b", api.OK}, {[]string{"/a/", "./b/c"}, "a/b/c", api.OK},
		{[]string{"a", "", "b"}, "a/b", api.OK}, {[]string{"a", ".", ".b"}, "a/.b", api.OK}, {[]string{".", "."}, "", api.OK},
		{[]string{"a", ".."}, "", api.ErrOut}, {[]string{"\x00", ".."}, "", api.ErrName}, {[]string{"..", "\x00"}, "", api.ErrOut}, {[]string{"a", row(1, 49), ".."}, "", api.ErrBig},
		{[]string{row(6, 1), row(6, 1)}, row(12, 1), api.OK}, {[]string{row(6, 1), row(7, 1)}, "", api.ErrBig}, {[]string{row(12, 1), "x", ".."}, "", api.ErrOut}, {[]string{row(13, 1), "\x00"}, "", api.ErrName},
		{[]string{row(2, 48), row(2, 48), "abcd"}, row(4, 48) + "/abcd", api.OK}, {[]string{row(2, 48), row(2, 48), "abcde"}, "", api.ErrBig}, {[]string{row(1, 30), row(1, 30)}, row(2, 30), api.OK},
	}
	for _, r := range rows {
		if got, err := Join(r.l...); got != r.want || err != r.err {
			t.Errorf("Join(%q) = %q, %d", r.l, got, err)
		}
	}
	for _, a := range odd() {
		for _, b := range odd() {
			got, err := Join(a, b)
			want, wanted := plainClean(a + "/" + b)
			if got != want || err != wanted {
				t.Errorf("Join(%q, %q) = %q, %d", a, b, got, err)
			}
		}
	}
}

// Split, Depth, Base, Parent: rows by hand, and of all texts.
func TestParts(t *testing.T) {
	rows := []struct {
		p            string
		parts        []string
		base, parent string
	}{
		{"", nil, "", ""}, {"a", []string{"a"}, "a", ""}, {"a/b", []string{"a", "b"}, "b", "a"}, {"a/b/c", []string{"a", "b", "c"}, "c", "a/b"},
		{"/", []string{"", ""}, "", ""}, {"//", []string{"", "", ""}, "", "/"}, {"/a", []string{"", "a"}, "a", ""}, {"a/", []string{"a", ""}, "", "a"}, {"a//b", []string{"a", "", "b"}, "b", "a/"},
		{"..", []string{".."}, "..", ""}, {"./\x00", []string{".", "\x00"}, "\x00", "."}, {"\xe2/\x82", []string{"\xe2", "\x82"}, "\x82", "\xe2"}, {"é/ü", []string{"é", "ü"}, "ü", "é"}, {"\xc0\xaf", []string{"\xc0\xaf"}, "\xc0\xaf", ""},
	}
	for _, r := range rows {
		if !slices.Equal(Split(r.p), r.parts) || Depth(r.p) != len(r.parts) || Base(r.p) != r.base || Parent(r.p) != r.parent {
			t.Errorf("%q: %q, %d, %q, %q", r.p, Split(r.p), Depth(r.p), Base(r.p), Parent(r.p))
		}
	}
	for _, p := range all() {
		parts := plainParts(p)
		base, parent := "", ""
		if n := len(parts); n > 0 {
			base, parent = parts[n-1], strings.Join(parts[:n-1], "/")
		}
		if !slices.Equal(Split(p), parts) || Depth(p) != len(parts) || Base(p) != base || Parent(p) != parent {
			t.Errorf("%q: %q, %d, %q, %q", p, Split(p), Depth(p), Base(p), Parent(p))
		}
	}
}

// Less, Under, Rel, Common: rows by hand, the chapter's examples among them.
func TestPairRows(t *testing.T) {
	ahead := [][2]string{
		{"a/b", "a/b/c"}, {"a/b/c", "a.b"}, {"a/b", "a.b"}, {"", "a"}, {"", "/"}, {"a", "b"}, {"a", "ab"}, {"a/z", "ab"}, {"a/z", "a\x00"}, {"a/z", "a\x01"}, {"Z", "a"}, {"a", "\xff"}, {"\x7f", "\x80"},
		{"a", "a/"}, {"a/", "a//"}, {"a//b", "a/b"}, {"/", "a"}, {"/b", "a"}, {"é", "\xff"}, {"\xc3", "é"}, {"\xef\xbf\xbd", "\xff"}, {"\xfe", "\xff"},
	}
	for _, x := range ahead {
		if !Less(x[0], x[1]) || Less(x[1], x[0]) || Less(x[0], x[0]) {
			t.Errorf("%q is to be ahead of %q", x[0], x[1])
		}
	}
	rows := []struct {
		p, top, rel string
		ok          bool
		common      string
	}{
		{"a/b", "a", "b", true, "a"}, {"a/b/c", "a", "b/c", true, "a"}, {"a/b", "", "a/b", true, ""}, {"a", "a", "", true, "a"}, {"", "", "", true, ""},
		{"ab", "a", "", false, ""}, {"a", "a/b", "", false, "a"}, {"", "a", "", false, ""}, {"a/b", "a/c", "", false, "a"}, {"a/bc", "a/b", "", false, "a"}, {"a.b", "a", "", false, ""},
		{"/a", "", "/a", true, ""}, {"a/", "a", "", true, "a"}, {"a//b", "a", "/b", true, "a"}, {"a//b", "a/", "b", true, "a/"}, {"/", "/", "", true, "/"}, {"//", "/", "", true, "/"}, {"", "/", "", false, ""}, {"/a", "/b", "", false, ""}, {"a/b", "b", "", false, ""},
	}
	for _, r := range rows {
		rel, ok := Rel(r.p, r.top)
		if rel != r.rel || ok != r.ok || Under(r.p, r.top) != r.ok || Common(r.p, r.top) != r.common {
			t.Errorf("%q, %q: %q, %v, %v, %q", r.p, r.top, rel, ok, Under(r.p, r.top), Common(r.p, r.top))
		}
	}
}

// Less, Under, Rel, Common: of all pairs, as the chapter says it.
func TestPairs(t *testing.T) {
	l := append(texts(4, "/.a\x00"), odd()...)
	for _, a := range l {
		x := plainParts(a)
		for _, b := range l {
			y := plainParts(b)
			if got, want := Less(a, b), slices.Compare(x, y) < 0; got != want {
				t.Errorf("Less(%q, %q) = %v", a, b, got)
			}
			under := len(x) >= len(y) && slices.Equal(x[:len(y)], y)
			if got := Under(a, b); got != under {
				t.Errorf("Under(%q, %q) = %v", a, b, got)
			}
			want := ""
			if under {
				want = strings.Join(x[len(y):], "/")
			}
			if got, ok := Rel(a, b); got != want || ok != under {
				t.Errorf("Rel(%q, %q) = %q, %v", a, b, got, ok)
			}
			if got, want := Common(a, b), strings.Join(plainCommon(a, b), "/"); got != want {
				t.Errorf("Common(%q, %q) = %q, want %q", a, b, got, want)
			}
		}
	}
}

// P13.2: of two texts one is ahead, unless they are the same; what is above is ahead.
func TestOrderIsTotal(t *testing.T) {
	l := append(texts(4, "/a\x00\xff"), odd()...)
	for _, a := range l {
		for _, b := range l {
			if a == b && Less(a, b) || a != b && Less(a, b) == Less(b, a) {
				t.Errorf("%q, %q: %v, %v", a, b, Less(a, b), Less(b, a))
			}
			if a != b && Under(b, a) && !Less(a, b) {
				t.Errorf("%q is above %q", a, b)
			}
		}
	}
	few := append(texts(2, "/.a\xff"), "a/b", "a/b/c", "a.b", "ab", "a/bc")
	for _, a := range few {
		for _, b := range few {
			for _, c := range few {
				if Less(a, b) && Less(b, c) && !Less(a, c) {
					t.Errorf("%q, %q, %q", a, b, c)
				}
			}
		}
	}
}

// P13.2: all that is below a path stands together, right behind it.
func TestBelowStandsTogether(t *testing.T) {
	l := Sort(paths())
	for i, top := range l {
		if i > 0 && !Less(l[i-1], top) {
			t.Errorf("%q, %q", l[i-1], top)
		}
		n := i
		for n < len(l) && Under(l[n], top) {
			n++
		}
		for k, p := range l {
			if Under(p, top) != (k >= i && k < n) {
				t.Errorf("%q below %q", p, top)
			}
		}
	}
}

// P13.3.
func TestJoinedAgain(t *testing.T) {
	l := paths()
	met := 0
	for _, p := range l {
		if got, err := Join(Parent(p), Base(p)); got != p || err != api.OK {
			t.Errorf("%q: %q, %d", p, got, err)
		}
		for _, top := range l {
			rel, ok := Rel(p, top)
			if !ok {
				continue
			}
			met++
			if got, err := Join(top, rel); got != p || err != api.OK {
				t.Errorf("%q behind %q: %q, %d", rel, top, got, err)
			}
		}
	}
	if met < 2*len(l) {
		t.Error("too few:", met)
	}
}

// Sort: all texts, like ones as often; what is handed in stays.
func TestSort(t *testing.T) {
	if l := Sort(nil); len(l) != 0 {
		t.Error(l)
	}
	whole := []string{"b", "a.b", "", "a/b/c", "b", "/", "a/b", "b", "", "z", "y"}
	l := whole[:9]
	got := Sort(l)
	if want := []string{"", "", "/", "a/b", "a/b/c", "a.b", "b", "b", "b"}; !slices.Equal(got, want) {
		t.Errorf("%q", got)
	}
	_ = append(got, "new")
	clear(got)
	if !slices.Equal(whole, []string{"b", "a.b", "", "a/b/c", "b", "/", "a/b", "b", "", "z", "y"}) {
		t.Errorf("changed: %q", whole)
	}
	many := all()
	slices.Reverse(many)
	want := slices.Clone(many)
	slices.SortFunc(want, func(a, b string) int { return slices.Compare(plainParts(a), plainParts(b)) })
	if !slices.Equal(Sort(many), want) {
		t.Error("not in the order")
	}
}

// What Join is handed stays, and two answers of Split share nothing.
func TestMemory(t *testing.T) {
	l := []string{"/a/", "./b", "c"}
	if p, err := Join(l[:2]...); p != "a/b" || err != api.OK || !slices.Equal(l, []string{"/a/", "./b", "c"}) {
		t.Error(p, err, l)
	}
	one, two := Split("a/b"), Split("a/b")
	_ = append(one, "c")
	clear(one)
	if !slices.Equal(two, []string{"a", "b"}) {
		t.Error(two)
	}
}

// Long texts are gone through, too.
func TestLong(t *testing.T) {
	deep := strings.Repeat("ab/", 1<<20)
	if _, err := Clean(deep); err != api.ErrBig {
		t.Error(err)
	}
	if _, err := Clean(deep + ".."); err != api.ErrOut {
		t.Error(err)
	}
	if Right(deep) || Depth(deep) != 1<<20+1 || len(Split(deep)) != 1<<20+1 || len(Parent(deep)) != len(deep)-1 {
		t.Error("of a deep text")
	}
	if got := Common(deep+"x", deep+"y"); got != deep[:len(deep)-1] {
		t.Error(len(got))
	}
	if !Less(deep+"x", deep+"y") || !Under(deep, "ab/ab") || Under(deep, "ab/a") {
		t.Error("the order")
	}
	if p, err := Clean(strings.Repeat("/.", 1<<20) + "/a"); p != "a" || err != api.OK {
		t.Error(p, err)
	}
}
