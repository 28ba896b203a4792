package rules

import (
	"slices"
	"strconv"
	"strings"
	"testing"

	"remora/api"
	"remora/glob"
	"remora/path"
)

// plainErr: why a rule may not be, as the chapter's words have it.
func plainErr(r api.Rule) api.Errno {
	if !slices.Contains([]int{api.Include, api.Exclude, api.Protect, api.Risk}, r.Act) {
		return api.ErrArg
	}
	if r.Pattern == "" || strings.HasPrefix(r.Pattern, "/") || strings.HasSuffix(r.Pattern, "/") || strings.Contains(r.Pattern, "\n") {
		return api.ErrForm
	}
	return glob.Check(r.Pattern)
}

// plainLine: the line of a rule, whether it may be or not.
func plainLine(r api.Rule) string {
	line := map[int]string{api.Include: "+ ", api.Exclude: "- ", api.Protect: "P ", api.Risk: "R "}[r.Act]
	if r.Anchored {
		line += "/"
	}
	line += r.Pattern
	if r.Dir {
		line += "/"
	}
	return line
}

// plainMatches: does r match p, as the chapter's words have it?
func plainMatches(r api.Rule, p string, dir bool) bool {
	if plainErr(r) != api.OK || !path.Right(p) || p == "" {
		return false
	}
	if r.Dir && !dir {
		return false
	}
	if r.Anchored || strings.Contains(r.Pattern, "/") {
		return glob.Match(r.Pattern, p)
	}
	return glob.Match(r.Pattern, path.Base(p))
}

// plainAct: the act of the first of those rules that count and match.
func plainAct(l []api.Rule, p string, dir, drop bool) int {
	for _, r := range l {
		if plainMatches(r, p, dir) && (drop || r.Act == api.Include || r.Act == api.Exclude) {
			return r.Act
		}
	}
	return 0
}

// plainHidden: is a path, or one of those above it but the top, excluded?
func plainHidden(l []api.Rule, p string, dir bool) bool {
	if !path.Right(p) {
		return false
	}
	parts := path.Split(p)
	for n := 1; n <= len(parts); n++ {
		if plainAct(l, strings.Join(parts[:n], "/"), dir || n < len(parts), false) == api.Exclude {
			return true
		}
	}
	return false
}

// texts: all texts of at most so many of the signs.
func texts(most int, signs string) []string {
	out := []string{""}
	from := 0
	for range most {
		to := len(out)
		for _, s := range out[from:to] {
			for i := range len(signs) {
				out = append(out, s+signs[i:i+1])
			}
		}
		from = to
	}
	return out
}

// dice: numbers that look like chance.
type dice uint32

func (d *dice) below(n int) int {
	*d = *d*1664525 + 1013904223
	return int(*d>>8) % n
}

// patterns: such as may be, and such as may not.
func patterns() []string {
	long := strings.Repeat("x", api.MaxPattern)
	return []string{
		"a", "b", "*", "**", "a*", "*.o", "?", "[ab]", "[!a]", "a/b", "a/*", "*/b", "a/**", "**/b", "a?b", "a[/]b", "\\a", "a\\/b", "\\*", "#", "a b", " ", "é", "\xff", "a\r", "+ a", ".remora", "a//b", long, "a/" + long[2:],
		"", "/", "//", "/a", "a/", "/a/", "a\n", "\n", "a\nb", "\n/", "[", "a\\", "[b-a]", "[]", "[/", "/[", "[/]/", "\\/", "a\\/", long + "x", long + "\n", long + "/", "[" + long,
	}
}

// every: rules of all those patterns, of right and of other acts.
func every() []api.Rule {
	var out []api.Rule
	for _, p := range patterns() {
		for _, act := range []int{-1 << 63, -1, 0, 1, 2, 3, 4, 5, 43, 1<<63 - 1} {
			for i := range 4 {
				out = append(out, api.Rule{Act: act, Pattern: p, Dir: i&1 > 0, Anchored: i&2 > 0})
			}
		}
	}
	return out
}

// right: those of them that may be.
func right() []api.Rule {
	return slices.DeleteFunc(every(), func(r api.Rule) bool { return plainErr(r) != api.OK })
}

// The numbers of the acts are api's.
func TestActs(t *testing.T) {
	if include != api.Include || exclude != api.Exclude || protect != api.Protect || risk != api.Risk || len(signs) != risk {
		t.Error(include, exclude, protect, risk)
	}
}

// P15.1, P15.2: which rules may be, and their lines.
func TestCheckAndPrint(t *testing.T) {
	long := strings.Repeat("x", api.MaxPattern)
	rows := []struct {
		r    api.Rule
		line string
		err  api.Errno
	}{
		{api.Rule{Act: 1, Pattern: "a"}, "+ a", api.OK}, {api.Rule{Act: 2, Pattern: "a"}, "- a", api.OK}, {api.Rule{Act: 3, Pattern: "a"}, "P a", api.OK}, {api.Rule{Act: 4, Pattern: "a"}, "R a", api.OK},
		{api.Rule{Act: 2, Pattern: "a", Dir: true}, "- a/", api.OK}, {api.Rule{Act: 2, Pattern: "a", Anchored: true}, "- /a", api.OK}, {api.Rule{Act: 2, Pattern: "a/b", Dir: true, Anchored: true}, "- /a/b/", api.OK},
		{api.Rule{Act: 1, Pattern: long}, "+ " + long, api.OK}, {api.Rule{Act: 1, Pattern: long, Dir: true, Anchored: true}, "+ /" + long + "/", api.OK}, {api.Rule{Act: 1, Pattern: "#"}, "+ #", api.OK}, {api.Rule{Act: 1, Pattern: "a\\\\"}, "+ a\\\\", api.OK},
		{api.Rule{}, "", api.ErrArg}, {api.Rule{Act: 5, Pattern: "a"}, "", api.ErrArg}, {api.Rule{Act: -1, Pattern: "a"}, "", api.ErrArg}, {api.Rule{Pattern: long + "/"}, "", api.ErrArg},
		{api.Rule{Act: 1}, "", api.ErrForm}, {api.Rule{Act: 1, Pattern: "/"}, "", api.ErrForm}, {api.Rule{Act: 1, Pattern: "/a"}, "", api.ErrForm}, {api.Rule{Act: 1, Pattern: "a/"}, "", api.ErrForm}, {api.Rule{Act: 1, Pattern: "a\nb"}, "", api.ErrForm}, {api.Rule{Act: 1, Pattern: "a\\/"}, "", api.ErrForm},
		{api.Rule{Act: 1, Pattern: "["}, "", api.ErrForm}, {api.Rule{Act: 1, Pattern: "a\\"}, "", api.ErrForm}, {api.Rule{Act: 1, Pattern: long + "x"}, "", api.ErrBig}, {api.Rule{Act: 1, Pattern: "/" + long}, "", api.ErrForm}, {api.Rule{Act: 1, Pattern: long + "\n"}, "", api.ErrForm},
	}
	for _, x := range rows {
		if line, err := Print(x.r); line != x.line || err != x.err {
			t.Errorf("Print(%+v) = %q, %d", x.r, line, err)
		}
	}
	for _, r := range every() {
		want := plainErr(r)
		if err := Check([]api.Rule{r}); err != want {
			t.Errorf("Check(%+v) = %d, want %d", r, err, want)
		}
		wanted := ""
		if want == api.OK {
			wanted = plainLine(r)
		}
		if line, err := Print(r); line != wanted || err != want {
			t.Errorf("Print(%+v) = %q, %d", r, line, err)
		}
	}
}

// P15.1: too many come first; else the first rule that may not be.
func TestCheckMany(t *testing.T) {
	a, form, arg, big := api.Rule{Act: 1, Pattern: "a"}, api.Rule{Act: 1, Pattern: "["}, api.Rule{Act: 9, Pattern: "a"}, api.Rule{Act: 1, Pattern: strings.Repeat("x", 101)}
	full := slices.Repeat([]api.Rule{a}, api.MaxRules)
	rows := []struct {
		l   []api.Rule
		err api.Errno
	}{
		{nil, api.OK}, {[]api.Rule{}, api.OK}, {[]api.Rule{a, a}, api.OK}, {full, api.OK}, {append(full[:64:64], a), api.ErrBig}, {append(full[:64:64], arg), api.ErrBig}, {append([]api.Rule{form}, full...), api.ErrBig},
		{[]api.Rule{a, form, arg}, api.ErrForm}, {[]api.Rule{a, arg, form}, api.ErrArg}, {[]api.Rule{big, arg}, api.ErrBig}, {append(full[:63:63], arg), api.ErrArg}, {append(full[:63:63], form), api.ErrForm},
	}
	for i, x := range rows {
		if err := Check(x.l); err != x.err {
			t.Errorf("%d: Check: %d", i, err)
		}
		if s, err := Text(x.l); err != x.err || err != api.OK && s != "" || err == api.OK && strings.Count(s, "\n") != len(x.l) {
			t.Errorf("%d: Text: %q, %d", i, s, err)
		}
	}
}

// P15.2: rows by hand.
func TestParse(t *testing.T) {
	rows := []struct {
		line string
		r    api.Rule
		err  api.Errno
	}{
		{"- *.o", api.Rule{Act: 2, Pattern: "*.o"}, api.OK}, {"- /a/", api.Rule{Act: 2, Pattern: "a", Dir: true, Anchored: true}, api.OK}, {"+ /keep.o", api.Rule{Act: 1, Pattern: "keep.o", Anchored: true}, api.OK}, {"P keep", api.Rule{Act: 3, Pattern: "keep"}, api.OK}, {"R a/b/", api.Rule{Act: 4, Pattern: "a/b", Dir: true}, api.OK},
		{"+  a", api.Rule{Act: 1, Pattern: " a"}, api.OK}, {"+ a ", api.Rule{Act: 1, Pattern: "a "}, api.OK}, {"+ + a", api.Rule{Act: 1, Pattern: "+ a"}, api.OK}, {"+ #", api.Rule{Act: 1, Pattern: "#"}, api.OK}, {"+ a\r", api.Rule{Act: 1, Pattern: "a\r"}, api.OK}, {"+ a//b", api.Rule{Act: 1, Pattern: "a//b"}, api.OK}, {"+ \\//", api.Rule{}, api.ErrForm},
		{"", api.Rule{}, api.ErrForm}, {"+", api.Rule{}, api.ErrForm}, {" ", api.Rule{}, api.ErrForm}, {"+ ", api.Rule{}, api.ErrForm}, {"+a", api.Rule{}, api.ErrForm}, {"+\ta", api.Rule{}, api.ErrForm}, {" + a", api.Rule{}, api.ErrForm}, {"p a", api.Rule{}, api.ErrForm}, {"r a", api.Rule{}, api.ErrForm}, {"* a", api.Rule{}, api.ErrForm}, {"# a", api.Rule{}, api.ErrForm}, {"\x00 a", api.Rule{}, api.ErrForm}, {"+- a", api.Rule{}, api.ErrForm}, {"é a", api.Rule{}, api.ErrForm},
		{"- /", api.Rule{}, api.ErrForm}, {"- //", api.Rule{}, api.ErrForm}, {"- ///", api.Rule{}, api.ErrForm}, {"- //a", api.Rule{}, api.ErrForm}, {"- a//", api.Rule{}, api.ErrForm}, {"- a\n", api.Rule{}, api.ErrForm}, {"- a\nb", api.Rule{}, api.ErrForm}, {"- [", api.Rule{}, api.ErrForm}, {"- a\\/", api.Rule{}, api.ErrForm},
		{"- " + strings.Repeat("x", 101), api.Rule{}, api.ErrBig}, {"- /" + strings.Repeat("x", 100) + "/", api.Rule{Act: 2, Pattern: strings.Repeat("x", 100), Dir: true, Anchored: true}, api.OK}, {"- //" + strings.Repeat("x", 100), api.Rule{}, api.ErrForm}, {"x " + strings.Repeat("x", 101), api.Rule{}, api.ErrForm},
	}
	for _, x := range rows {
		if r, err := Parse(x.line); r != x.r || err != x.err {
			t.Errorf("Parse(%q) = %+v, %d", x.line, r, err)
		}
	}
	for c := range 256 {
		line := string([]byte{byte(c)}) + " a"
		if _, err := Parse(line); (err == api.OK) != strings.Contains("+-PR", line[:1]) {
			t.Errorf("Parse(%q): %d", line, err)
		}
		line = "+" + string([]byte{byte(c)}) + "a"
		if _, err := Parse(line); (err == api.OK) != (c == ' ') {
			t.Errorf("Parse(%q): %d", line, err)
		}
	}
}

// P15.2, P15.6: of all short lines, those are read that are a rule's line, as that rule.
func TestAllShortLines(t *testing.T) {
	met := 0
	for _, behind := range texts(5, "/a*[] \\\n") {
		for _, sign := range []string{"+ ", "- ", "P ", "R ", "* ", "+", " +", ""} {
			line := sign + behind
			var want api.Rule
			for act := range 6 {
				for i := range 4 {
					r := api.Rule{Act: act, Dir: i&1 > 0, Anchored: i&2 > 0}
					from, to := 2, len(line)
					if r.Anchored {
						from++
					}
					if r.Dir {
						to--
					}
					if from < to {
						r.Pattern = line[from:to]
					}
					if plainErr(r) == api.OK && plainLine(r) == line {
						want = r
					}
				}
			}
			r, err := Parse(line)
			if r != want || (err == api.OK) != (want.Act > 0) || err != api.OK && err != api.ErrForm {
				t.Fatalf("Parse(%q) = %+v, %d, want %+v", line, r, err, want)
			}
			if err == api.OK {
				met++
			}
		}
	}
	if met < 10000 {
		t.Error("too few:", met)
	}
}

// P15.3: rows by hand.
func TestLines(t *testing.T) {
	a, b := api.Rule{Act: 1, Pattern: "a"}, api.Rule{Act: 2, Pattern: "b", Dir: true}
	full := strings.Repeat("+ a\n", api.MaxRules)
	rows := []struct {
		s      string
		l      []api.Rule
		number int
		err    api.Errno
	}{
		{"", nil, 0, api.OK}, {"\n", nil, 0, api.OK}, {"\n\n#\n# - x\n", nil, 0, api.OK}, {"+ a", []api.Rule{a}, 0, api.OK}, {"+ a\n", []api.Rule{a}, 0, api.OK}, {"+ a\n- b/", []api.Rule{a, b}, 0, api.OK}, {"\n- b/\n#\n\n+ a\n+ a\n", []api.Rule{b, a, a}, 0, api.OK},
		{"x", nil, 1, api.ErrForm}, {"\n\nx", nil, 3, api.ErrForm}, {"+ a\n#\n\n- \n+ [", nil, 4, api.ErrForm}, {" ", nil, 1, api.ErrForm}, {"+ a\n # x", nil, 2, api.ErrForm}, {"\r\n", nil, 1, api.ErrForm}, {"+ a\n+ " + strings.Repeat("x", 101) + "\nx", nil, 2, api.ErrBig},
		{full, slices.Repeat([]api.Rule{a}, 64), 0, api.OK}, {full + "\n# x\n", slices.Repeat([]api.Rule{a}, 64), 0, api.OK}, {full + "+ a", nil, 65, api.ErrBig}, {full + "\n#\n+ a\nx", nil, 67, api.ErrBig}, {full + "x", nil, 65, api.ErrForm}, {full + "+ a\nx", nil, 65, api.ErrBig}, {full + "+ " + strings.Repeat("x", 101), nil, 65, api.ErrBig},
		{strings.Repeat("\n#\n", 5000) + "?", nil, 10001, api.ErrForm},
	}
	for _, x := range rows {
		l, number, err := Lines(x.s)
		if !slices.Equal(l, x.l) || number != x.number || err != x.err {
			t.Errorf("Lines(%.40q) = %+v, %d, %d", x.s, l, number, err)
		}
	}
}

// P15.3: lines by chance, read as the chapter says it.
func TestLinesByChance(t *testing.T) {
	d := dice(7)
	few := []string{"", "#", "# x", "+ a", "- b", "- /c/", "P *", "R a/b", "+ [a", "x", "+", "+ a", "- b", "#- x"}
	good := 0
	for range 20000 {
		var lines []string
		for range d.below(8) {
			lines = append(lines, few[d.below(len(few))])
		}
		var want []api.Rule
		number, wanted := 0, api.OK
		for i, line := range lines {
			if line == "" || strings.HasPrefix(line, "#") {
				continue
			}
			r, err := Parse(line)
			if err != api.OK {
				want, number, wanted = nil, i+1, err
				break
			}
			want = append(want, r)
		}
		l, n, err := Lines(strings.Join(lines, "\n"))
		if !slices.Equal(l, want) || n != number || err != wanted {
			t.Fatalf("Lines of %q: %+v, %d, %d", lines, l, n, err)
		}
		if err == api.OK && len(l) > 1 {
			good++
		}
	}
	if good < 1000 {
		t.Error("too few:", good)
	}
}

// P15.6: what is printed is parsed as it was, and many as one text.
func TestThereAndBack(t *testing.T) {
	l := right()
	for _, r := range l {
		line, err := Print(r)
		if back, e := Parse(line); back != r || err != api.OK || e != api.OK {
			t.Errorf("%+v: %q, %+v, %d, %d", r, line, back, err, e)
		}
	}
	if len(l) < 300 {
		t.Error("too few:", len(l))
	}
	for some := range slices.Chunk(l, api.MaxRules) {
		s, err := Text(some)
		want := ""
		for _, r := range some {
			want += plainLine(r) + "\n"
		}
		if s != want || err != api.OK {
			t.Errorf("Text: %q, %d", s, err)
		}
		if back, n, err := Lines(s); !slices.Equal(back, some) || n != 0 || err != api.OK {
			t.Errorf("Lines: %+v, %d, %d", back, n, err)
		}
	}
	if s, err := Text(nil); s != "" || err != api.OK {
		t.Error(s, err)
	}
}

// paths: right ones, and such as are none.
func paths() []string {
	out := append(texts(5, "ab/"), "a.o", "x/y.o", "a/b.o/c", "a b", "#", "é", "\xff", "*", "+ a", ".remora", ".remora/x", ".", "..", "a/..", "a\x00b", "a\nb", "/a/b", strings.Repeat("x", 48), strings.Repeat("x", 49))
	return append(out, strings.Repeat("a/", 11)+"a", strings.Repeat("a/", 12)+"a", strings.Repeat("xxx/", 49)+"xxxx")
}

// P15.4: each rule, held against each path.
func TestMatches(t *testing.T) {
	rows := []struct {
		line, p string
		dir, is bool
	}{
		{"- *.o", "a/x.o", false, true}, {"- *.o", "x.oo", false, false}, {"- *.o", "x.o", true, true}, {"- a", "b/a", false, true}, {"- /a", "b/a", false, false}, {"- /a", "a", false, true}, {"- a/b", "a/b", false, true}, {"- a/b", "c/a/b", false, false}, {"- /a/b", "a/b", false, true},
		{"- a/", "a", false, false}, {"- a/", "a", true, true}, {"- /a/", "b/a", true, false}, {"- **", "a/b", false, true}, {"- *", "a/b", false, true}, {"- /*", "a/b", false, false}, {"- /**", "a/b", false, true}, {"- a**", "a/b", false, false}, {"- /a**", "a/b", false, true}, {"- a**b", "a/b", false, false}, {"- **/b", "b", false, false}, {"- **/b", "a/b", false, true}, {"- a?b", "a/b", false, false},
		{"- a[/]b", "a/b", false, false}, {"- a\\/b", "a/b", false, true}, {"- [!/]", "a/b", false, false}, {"- [!/]", "a", false, true}, {"- [!b]", "a/c", false, true}, {"- **", "", true, false}, {"- **", "a/", true, false}, {"- **", "/a", true, false}, {"- **", "..", true, false},
	}
	for _, x := range rows {
		r, err := Parse(x.line)
		if got := Matches(r, x.p, x.dir); got != x.is || err != api.OK {
			t.Errorf("%q, %q, %v: %v, %d", x.line, x.p, x.dir, got, err)
		}
	}
	met := 0
	for _, r := range every() {
		for _, p := range paths() {
			for _, dir := range []bool{false, true} {
				want := plainMatches(r, p, dir)
				if got := Matches(r, p, dir); got != want {
					t.Fatalf("Matches(%+v, %q, %v) = %v", r, p, dir, got)
				}
				if want {
					met++
				}
			}
		}
	}
	if met < 5000 {
		t.Error("too few:", met)
	}
}

// list: some rules, of which most may be.
func (d *dice) list(most int) []api.Rule {
	few := []string{"a", "b", "*", "a/b", "a/*", "*/b", "/a", "a/a/", "", "[", "?", "[!a]", "**/b", "*/*/a"}
	var out []api.Rule
	for range d.below(most + 1) {
		out = append(out, api.Rule{Act: d.below(6), Pattern: few[d.below(len(few))], Dir: d.below(3) == 0, Anchored: d.below(3) == 0})
	}
	return out
}

// P15.4, P15.5: lists of rules by chance, held against the chapter's words.
func TestActHiddenSafe(t *testing.T) {
	d := dice(3)
	l := paths()
	hidden, safe := 0, 0
	for range 60000 {
		some, p, dir := d.list(6), l[d.below(len(l))], d.below(2) == 0
		for _, drop := range []bool{false, true} {
			if got, want := Act(some, p, dir, drop), plainAct(some, p, dir, drop); got != want {
				t.Fatalf("Act(%+v, %q, %v, %v) = %d, want %d", some, p, dir, drop, got, want)
			}
		}
		want := plainHidden(some, p, dir)
		if got := Hidden(some, p, dir); got != want {
			t.Fatalf("Hidden(%+v, %q, %v) = %v", some, p, dir, got)
		}
		wanted := plainAct(some, p, dir, true) == api.Protect
		if got := Safe(some, p, dir); got != wanted {
			t.Fatalf("Safe(%+v, %q, %v) = %v", some, p, dir, got)
		}
		if want && plainAct(some, p, dir, false) != api.Exclude {
			hidden++
		}
		if wanted {
			safe++
		}
	}
	if hidden < 500 || safe < 500 {
		t.Error("too few:", hidden, safe)
	}
}

// P15.4, P15.5: rows by hand, the chapter's examples among them.
func TestRows(t *testing.T) {
	rows := []struct {
		text         string
		p            string
		dir          bool
		act, drop    int
		hidden, safe bool
	}{
		{"", "a", false, 0, 0, false, false}, {"- *.o", "a/x.o", false, 2, 2, true, false}, {"- *.o", "x.oo", false, 0, 0, false, false},
		{"- /a/", "a", true, 2, 2, true, false}, {"- /a/", "a", false, 0, 0, false, false}, {"- /a/", "a/b", false, 0, 0, true, false}, {"- /a/", "a/b/c", true, 0, 0, true, false}, {"- /a/", "b/a", true, 0, 0, false, false}, {"- /a/", "b/a/c", false, 0, 0, false, false},
		{"P keep\n- *", "keep", false, 2, 3, true, true}, {"- *\nP keep", "keep", false, 2, 2, true, false}, {"P keep", "keep", false, 0, 3, false, true}, {"R keep\nP *", "keep", false, 0, 4, false, false}, {"R keep\nP *", "x", false, 0, 3, false, true}, {"+ keep\nP keep", "keep", false, 1, 1, false, false},
		{"+ /keep.o\n- *.o", "keep.o", false, 1, 1, false, false}, {"+ /keep.o\n- *.o", "x/keep.o", false, 2, 2, true, false}, {"- *.o\n+ /keep.o", "keep.o", false, 2, 2, true, false},
		{"+ a/b\n- a", "a/b", false, 1, 1, true, false}, {"- a\n+ a/b", "a/b", false, 1, 1, true, false}, {"P a", "a/b", false, 0, 0, false, false}, {"- b", "a/b/c", false, 0, 0, true, false}, {"- b/", "a/b", false, 0, 0, false, false},
		{"- *\nP *", "", true, 0, 0, false, false}, {"- *\nP *", "a/", true, 0, 0, false, false}, {"- *\nP *", "/a", false, 0, 0, false, false}, {"P *\n- *", "a/../b", false, 0, 0, false, false}, {"P *\n- *", "a//b", false, 0, 0, false, false}, {"- a", "a/" + strings.Repeat("x", 49), false, 0, 0, false, false},
	}
	for _, x := range rows {
		l, _, err := Lines(x.text)
		if err != api.OK || Act(l, x.p, x.dir, false) != x.act || Act(l, x.p, x.dir, true) != x.drop || Hidden(l, x.p, x.dir) != x.hidden || Safe(l, x.p, x.dir) != x.safe {
			t.Errorf("%q, %q: %d, %d, %v, %v", x.text, x.p, Act(l, x.p, x.dir, false), Act(l, x.p, x.dir, true), Hidden(l, x.p, x.dir), Safe(l, x.p, x.dir))
		}
	}
}

// P15.4: more rules than may be, and such as may not be, are gone through too.
func TestBeyondMaxRules(t *testing.T) {
	l := slices.Repeat([]api.Rule{{Act: 1, Pattern: "b"}, {Act: 7, Pattern: "a"}, {Act: 2, Pattern: "a/"}, {Act: 3, Pattern: "/a"}, {Act: 0, Pattern: "*"}, {Act: 2, Pattern: "a\n"}}, 100)
	if Act(l, "a", false, false) != 0 || Act(l, "a", false, true) != 0 || Hidden(l, "a", false) || Safe(l, "a", false) {
		t.Error("what may not be matches")
	}
	if l = append(l, api.Rule{Act: 2, Pattern: "a"}); Act(l, "a", false, false) != 2 || !Hidden(l, "a/b", false) || Safe(l, "a", false) {
		t.Error("of", len(l))
	}
	if l[600].Act = 3; Act(l, "a", false, true) != 3 || Act(l, "a", false, false) != 0 || !Safe(l, "a", false) {
		t.Error("of", len(l))
	}
}

// P15.7: what is below what is hidden is hidden; behind a rule that matches nothing counts, one that does not match may stand anywhere, and Protect and Risk count for Safe alone.
func TestWhatFollows(t *testing.T) {
	d := dice(11)
	l := slices.DeleteFunc(paths(), func(p string) bool { return !path.Right(p) || p == "" })
	seen := 0
	for range 20000 {
		some, p, dir := d.list(5), l[d.below(len(l))], d.below(2) == 0
		for _, q := range l {
			if path.Under(q, p) && q != p && Hidden(some, p, true) && !Hidden(some, q, dir) {
				t.Fatalf("%+v: %q is hidden, %q not", some, p, q)
			}
		}
		i := slices.IndexFunc(some, func(r api.Rule) bool { return Matches(r, p, dir) })
		shown := slices.DeleteFunc(slices.Clone(some), func(r api.Rule) bool { return r.Act > 2 })
		if Hidden(some, p, dir) != Hidden(shown, p, dir) || Act(some, p, dir, false) != Act(shown, p, dir, true) {
			t.Fatalf("%+v: %q by rules of what may go", some, p)
		}
		if i < 0 {
			continue
		}
		seen++
		if got := Act(append(slices.Clone(some[:i+1]), d.list(5)...), p, dir, true); got != some[i].Act {
			t.Fatalf("%+v: %q by what is behind: %d", some, p, got)
		}
		other := api.Rule{Act: 1 + d.below(4), Pattern: strconv.Itoa(d.below(100))}
		if got := Act(slices.Insert(slices.Clone(some), d.below(i+1), other), p, dir, true); got != some[i].Act {
			t.Fatalf("%+v: %q behind %+v: %d", some, p, other, got)
		}
	}
	if seen < 2000 {
		t.Error("too few:", seen)
	}
}

// What is handed in stays, its spare room too, and two answers share nothing.
func TestMemory(t *testing.T) {
	whole := right()[:10]
	l, before := whole[:5], slices.Clone(whole)
	Check(l)
	Text(l)
	Act(l, "a", false, true)
	Hidden(l, "a/b", false)
	Safe(l, "a", true)
	if !slices.Equal(whole, before) {
		t.Error("changed")
	}
	one, _, _ := Lines("+ a\n- b\n")
	two, _, _ := Lines("+ a\n- b\n")
	_ = append(one, api.Rule{Act: 3})
	clear(one)
	if len(two) != 2 || two[1].Pattern != "b" {
		t.Error(two)
	}
}

// Long texts come to an end.
func TestLong(t *testing.T) {
	long := strings.Repeat("ab/", 1<<20)
	if _, err := Parse("+ " + long + "x"); err != api.ErrBig {
		t.Error(err)
	}
	if l, n, err := Lines(strings.Repeat("#\n", 1<<20) + "+ " + long); l != nil || n != 1<<20+1 || err != api.ErrBig {
		t.Error(l, n, err)
	}
	l := []api.Rule{{Act: 2, Pattern: "**"}, {Act: 3, Pattern: long}}
	if Hidden(l, long+"x", false) || Safe(l, long, true) || Act(l[1:], "ab", false, true) != 0 {
		t.Error("of a long path")
	}
}
