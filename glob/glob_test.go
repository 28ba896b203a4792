package glob

import (
	"slices"
	"strings"
	"testing"

	"remora/api"
)

// member is a byte of a class, and whether a backslash was ahead of it.
type member struct {
	c       byte
	escaped bool
}

// plainSign is a sign: a byte that stands for itself, one of a class, or stars.
type plainSign struct {
	kind byte // 'c' of itself, '?', '*', 'A' of two or more stars, '['
	c    byte
	not  bool
	of   [256]bool
}

// plainRead: the signs of a pattern, as the chapter's words have them; false, if it may not be (but for its length).
func plainRead(p string) ([]plainSign, bool) {
	var out []plainSign
	for p != "" {
		switch stars := len(p) - len(strings.TrimLeft(p, "*")); {
		case stars > 1:
			out, p = append(out, plainSign{kind: 'A'}), p[stars:]
		case stars == 1 || p[0] == '?':
			out, p = append(out, plainSign{kind: p[0]}), p[1:]
		case p == "\\":
			return nil, false
		case p[0] == '\\':
			out, p = append(out, plainSign{kind: 'c', c: p[1]}), p[2:]
		case p[0] == '[':
			x, rest, ok := plainClass(p[1:])
			if !ok {
				return nil, false
			}
			out, p = append(out, x), rest
		default:
			out, p = append(out, plainSign{kind: 'c', c: p[0]}), p[1:]
		}
	}
	return out, true
}

// plainClass: the class whose "[" stands ahead of p, and what is behind it.
func plainClass(p string) (plainSign, string, bool) {
	x := plainSign{kind: '['}
	if strings.HasPrefix(p, "!") {
		x.not, p = true, p[1:]
	}
	var l []member
	for !strings.HasPrefix(p, "]") {
		if p == "" || p == "\\" {
			return x, "", false
		}
		if p[0] == '\\' {
			l, p = append(l, member{p[1], true}), p[2:]
		} else {
			l, p = append(l, member{p[0], false}), p[1:]
		}
	}
	if len(l) == 0 || !x.fill(l) {
		return x, "", false
	}
	return x, p[1:], true
}

// fill: the members; each "-" is looked at: is it a byte like others, or does it stand between two?
func (x *plainSign) fill(l []member) bool {
	ranged := false
	for i := 0; i < len(l); i++ {
		like := l[i].c != '-' || l[i].escaped || i == 0 || i == len(l)-1 || ranged
		if like {
			x.of[l[i].c] = true
			ranged = false
			continue
		}
		from, to := l[i-1].c, l[i+1].c
		if to < from {
			return false
		}
		for c := 0; c < 256; c++ {
			x.of[c] = x.of[c] || byte(c) >= from && byte(c) <= to
		}
		ranged = true
		i++
	}
	return true
}

// one: is the byte matched by the sign, which is none of stars?
func (x plainSign) one(c byte) bool {
	switch x.kind {
	case 'c':
		return c == x.c
	case '?':
		return c != '/'
	}
	return c != '/' && x.of[c] != x.not
}

// plainMatch: is all of s matched by all signs, in some way?
func plainMatch(l []plainSign, s string) bool {
	if len(l) == 0 {
		return s == ""
	}
	if l[0].kind != '*' && l[0].kind != 'A' {
		return s != "" && l[0].one(s[0]) && plainMatch(l[1:], s[1:])
	}
	for n := 0; ; n++ {
		if plainMatch(l[1:], s[n:]) {
			return true
		}
		if n == len(s) || l[0].kind == '*' && s[n] == '/' {
			return false
		}
	}
}

// plainHead: what stands for itself ahead of the first other sign; is it all?
func plainHead(l []plainSign) (string, bool) {
	out := ""
	for _, x := range l {
		if x.kind != 'c' {
			return out, false
		}
		out += string([]byte{x.c})
	}
	return out, true
}

// texts: all texts of at most so many of the signs.
func texts(most int, signs string) []string {
	out := []string{""}
	from := 0
	for range most {
		to := len(out)
		for _, s := range out[from:to] {
			for i := range len(signs) {
				out = append(out, s+signs[i:i+1])
			}
		}
		from = to
	}
	return out
}

// held: a pattern against the plain ones, on those texts.
func held(t *testing.T, p string, against []string) (may, matches int) {
	t.Helper()
	l, ok := plainRead(p)
	want := api.OK
	switch {
	case len(p) > 100:
		want, ok = api.ErrBig, false
	case !ok:
		want = api.ErrForm
	}
	if err := Check(p); err != want {
		t.Fatalf("Check(%q) = %d, want %d", p, err, want)
	}
	head, all := "", false
	if ok {
		may = 1
		head, all = plainHead(l)
	}
	if got := Head(p); got != head {
		t.Fatalf("Head(%q) = %q, want %q", p, got, head)
	}
	if !all {
		head = ""
	}
	if got, plain := Plain(p); got != head || plain != all {
		t.Fatalf("Plain(%q) = %q, %v", p, got, plain)
	}
	for _, s := range against {
		does := ok && plainMatch(l, s)
		if Match(p, s) != does {
			t.Fatalf("Match(%q, %q) = %v", p, s, !does)
		}
		if does {
			matches++
		}
	}
	return may, matches
}

// P14.1, P14.2, P14.3: all short patterns, on all short texts.
func TestAllShort(t *testing.T) {
	against := texts(3, "ab/-")
	may, matches := 0, 0
	l := texts(4, "ab-[]!\\*?/")
	for _, p := range l {
		a, b := held(t, p, against)
		may, matches = may+a, matches+b
	}
	if may < 3000 || may > len(l)-3000 || matches < 5000 {
		t.Error("too few:", len(l), may, matches)
	}
}

// P14.1, P14.2: all short classes, on single bytes.
func TestAllClasses(t *testing.T) {
	against := []string{"", "!", "-", ".", "/", "0", "A", "[", "\\", "]", "^", "a", "b", "c", "d", "\xff", "aa"}
	may, matches := 0, 0
	for _, inner := range texts(6, "-ac]\\!") {
		a, b := held(t, "["+inner+"]", against)
		may, matches = may+a, matches+b
	}
	if may < 10000 || matches < 30000 {
		t.Error("too few:", may, matches)
	}
	var bytes []string
	for c := range 256 {
		bytes = append(bytes, string([]byte{byte(c)}))
	}
	for _, p := range []string{"[\x00-\xff]", "[!\x00-\xff]", "[!a]", "[.-0]", "[!.-0]", "[\x00-.0-\xff]", "[\x80-\xc0]", "[!\x80-\xc0]", "[é]", "?", "[*-?]", "[!!]", "[!\\]]", "[\\\\-\\]]"} {
		held(t, p, bytes)
	}
}

// dice: numbers that look like chance.
type dice uint32

func (d *dice) below(n int) int {
	*d = *d*1664525 + 1013904223
	return int(*d>>8) % n
}

// row: so many of the words, one behind the other.
func (d *dice) row(n int, words []string) string {
	out := ""
	for range n {
		out += words[d.below(len(words))]
	}
	return out
}

// P14.2: longer patterns, on longer texts.
func TestLonger(t *testing.T) {
	d := dice(14)
	signs := []string{"a", "b", "/", "*", "*", "**", "?", "[ab]", "[!a]", "\\*"}
	words := []string{"a", "a", "b", "/", "*"}
	matches := 0
	for range 4000 {
		p := d.row(1+d.below(9), signs)
		var against []string
		for range 10 {
			against = append(against, d.row(d.below(12), words))
		}
		_, n := held(t, p, against)
		matches += n
	}
	if matches < 3000 {
		t.Error("too few matches:", matches)
	}
}

// The chapter's examples, and rows by hand.
func TestMatchRows(t *testing.T) {
	rows := []struct {
		p        string
		yes, not []string
	}{
		{"a*c", []string{"ac", "abbc", "acc"}, []string{"a/c", "a", "c", "acb", "", "ab/c", "xac"}},
		{"a**c", []string{"ac", "abbc", "a/c", "a//b/c", "a*c"}, []string{"a", "ab", "a/", "ac/"}},
		{"a***c", []string{"ac", "a/c"}, []string{"a"}},
		{"[a-c]x", []string{"ax", "bx", "cx"}, []string{"dx", "x", "/x", "-x", "abx"}},
		{"[!a-c]x", []string{"dx", "-x", "!x", "\xffx"}, []string{"ax", "bx", "cx", "/x", "x"}},
		{"\\*", []string{"*"}, []string{"a", "", "\\*", "**"}},
		{"", []string{""}, []string{"a", "/"}},
		{"*", []string{"", "a", "a.b", "\x00"}, []string{"/", "a/", "a/b"}},
		{"**", []string{"", "a", "/", "a/b/", "\xff/\x00"}, nil},
		{"?", []string{"a", "?", "\n", "\xff"}, []string{"", "/", "ab", "é"}},
		{"a/*", []string{"a/", "a/b"}, []string{"a", "a/b/c", "a//"}},
		{"**/x", []string{"/x", "a/x", "a/b/x"}, []string{"x", "ax", "a/xy"}},
		{"*/b*c", []string{"x/bc", "/bbc"}, []string{"x/b/bc", "bc"}},
		{"*?", []string{"a", "ab"}, []string{"", "a/", "/"}},
		{"[]", nil, []string{"", "[]"}},
		{"[a]]", []string{"a]"}, []string{"a", "]"}},
		{"[^a]", []string{"^", "a"}, []string{"b"}},
		{"[a!]", []string{"a", "!"}, []string{"b"}},
		{"[\\!a]", []string{"a", "!"}, []string{"b", "\\"}},
		{"[a\\-c]", []string{"a", "-", "c"}, []string{"b", "\\"}},
		{"[a-c-e]", []string{"a", "b", "c", "-", "e"}, []string{"d"}},
		{"[a-c-e-g]", []string{"b", "-", "f"}, []string{"d"}},
		{"[+--]", []string{"+", ",", "-"}, []string{".", "*"}},
		{"[--0]", []string{"-", ".", "0"}, []string{"/", ",", "1"}},
		{"[!-a]", []string{"b", "!"}, []string{"-", "a"}},
		{"[*?[]", []string{"*", "?", "["}, []string{"a", "]"}},
		{"[\\]]", []string{"]"}, []string{"\\", "\\]"}},
		{"[\\\\]", []string{"\\"}, []string{"]", "\\\\"}},
		{"\\\\", []string{"\\"}, []string{"\\\\"}},
		{"]-!", []string{"]-!"}, []string{"]"}},
		{"\\a\\/", []string{"a/"}, []string{"a", "\\a/"}},
		{"[/]", nil, []string{"/", ""}},
		{"[.-0]", []string{".", "0"}, []string{"/"}},
	}
	for _, r := range rows {
		for _, s := range r.yes {
			if !Match(r.p, s) {
				t.Errorf("%q is to match %q", r.p, s)
			}
		}
		for _, s := range r.not {
			if Match(r.p, s) {
				t.Errorf("%q is not to match %q", r.p, s)
			}
		}
	}
}

// P14.1: which patterns may be.
func TestCheck(t *testing.T) {
	hundred := strings.Repeat("a", api.MaxPattern)
	may := []string{"", "a", "]", "!", "-", "a]b", "[a]", "[!a]", "[a-a]", "[-]", "[--]", "[---]", "[!-]", "[!!]", "[a-]", "[\\]]", "\\\\", "\\[", "[a-\\c]", "[\\a-c]", "\xff", "\x00", hundred, "[" + hundred[:98] + "]", strings.Repeat("*", 100), strings.Repeat("\\\\", 50)}
	for _, p := range may {
		if err := Check(p); err != api.OK {
			t.Errorf("Check(%q) = %d", p, err)
		}
	}
	wrong := []string{"[]", "[b-a]", "a\\", "\\", "[", "[!", "[!]", "[]a]", "[a", "[a\\", "[a\\]", "[\\]", "[a-", "[a-\\", "[a-\\]", "[a-b", "[!]a]", "x[", "[a][", "[a--]x[b", "[a--]", "[a-c-a-b", "[c-b-a]", "\\\\\\", "*[]", hundred[:99] + "\\", hundred[:99] + "["}
	for _, p := range wrong {
		if err := Check(p); err != api.ErrForm {
			t.Errorf("Check(%q) = %d", p, err)
		}
	}
	for _, p := range []string{hundred + "a", hundred + "\\", "[" + hundred, strings.Repeat("*", 101), strings.Repeat("[]", 5000)} {
		if err := Check(p); err != api.ErrBig {
			t.Errorf("Check(%q) = %d", p, err)
		}
	}
}

// P14.2, P14.3: a pattern that may not be matches nothing, and has no Head.
func TestMayNotBe(t *testing.T) {
	long := strings.Repeat("a", api.MaxPattern+1)
	for _, p := range []string{"abc[", "abc\\", "abc[]", "abc[b-a]", "[", "a[!]", long, strings.Repeat("*", 101)} {
		for _, s := range []string{"", "a", "abc", p, "abc["} {
			if Match(p, s) {
				t.Errorf("%q matches %q", p, s)
			}
		}
		if s := Head(p); s != "" {
			t.Errorf("Head(%q) = %q", p, s)
		}
		if s, ok := Plain(p); s != "" || ok {
			t.Errorf("Plain(%q) = %q, %v", p, s, ok)
		}
	}
}

// P14.3.
func TestHeadAndPlain(t *testing.T) {
	rows := []struct {
		p, head string
		plain   bool
	}{
		{"", "", true}, {"abc", "abc", true}, {"a\\*b", "a*b", true}, {"\\a", "a", true}, {"a]-!", "a]-!", true}, {"a/b", "a/b", true}, {"\\\\", "\\", true}, {"\\[a]", "[a]", true}, {"\xff\\\xfe", "\xff\xfe", true},
		{"a\\*b?c", "a*b", false}, {"[a]", "", false}, {"x[a]", "x", false}, {"*", "", false}, {"a*", "a", false}, {"a**", "a", false}, {"a/b/*.c", "a/b/", false}, {"a?b", "a", false},
	}
	for _, r := range rows {
		if got := Head(r.p); got != r.head {
			t.Errorf("Head(%q) = %q", r.p, got)
		}
		want := ""
		if r.plain {
			want = r.head
		}
		if got, ok := Plain(r.p); got != want || ok != r.plain {
			t.Errorf("Plain(%q) = %q, %v", r.p, got, ok)
		}
	}
}

// P14.4, P14.5: Escape, of any length, and what it matches.
func TestEscape(t *testing.T) {
	rows := [][2]string{
		{"", ""}, {"abc", "abc"}, {"a[?]", "a\\[\\?]"}, {"*", "\\*"}, {"**", "\\*\\*"}, {"\\", "\\\\"}, {"]!-/", "]!-/"}, {"\xff\x00é", "\xff\x00é"},
		{strings.Repeat("*a", 70000), strings.Repeat("\\*a", 70000)},
	}
	for _, r := range rows {
		if got := Escape(r[0]); got != r[1] {
			t.Errorf("Escape(%.20q) = %.20q", r[0], got)
		}
	}
	near := texts(4, "a*?[]\\!-/")
	for i, s := range near {
		p := Escape(s)
		if got, ok := Plain(p); got != s || !ok || Head(p) != s || !Match(p, s) {
			t.Errorf("%q, %q: %q, %v", s, p, got, ok)
		}
		for _, other := range near[i%97 : i%97+20] {
			if other != s && Match(p, other) {
				t.Errorf("%q matches %q", p, other)
			}
		}
	}
	if p := Escape(strings.Repeat("*", 50)); !Match(p, strings.Repeat("*", 50)) {
		t.Error("as long as it may be")
	}
	if p := Escape(strings.Repeat("*", 51)); Check(p) != api.ErrBig || Match(p, strings.Repeat("*", 51)) {
		t.Error("longer than it may be")
	}
}

// P14.5, P14.7: what is matched begins with the Head; a Plain pattern matches that alone; "/" is matched by what stands for itself, or by "**".
func TestWhatFollows(t *testing.T) {
	against := texts(4, "ab/")
	matched := 0
	for _, p := range texts(3, "ab/*?\\") {
		signs, ok := plainRead(p)
		if !ok {
			continue
		}
		plain, isPlain := Plain(p)
		slashes := 0
		for _, x := range signs {
			if x.kind == 'c' && x.c == '/' {
				slashes++
			}
		}
		deep := slices.ContainsFunc(signs, func(x plainSign) bool { return x.kind == 'A' })
		for _, s := range against {
			if !Match(p, s) {
				continue
			}
			matched++
			if !strings.HasPrefix(s, Head(p)) || isPlain && s != plain || !deep && strings.Count(s, "/") != slashes {
				t.Errorf("%q matches %q", p, s)
			}
		}
		if isPlain && !Match(p, plain) {
			t.Errorf("%q does not match %q", p, plain)
		}
	}
	if matched < 500 {
		t.Error("too few:", matched)
	}
}

// P14.6: two patterns, one behind the other, match two texts.
func TestBehindEachOther(t *testing.T) {
	patterns := []string{"", "a", "*", "**", "?", "a*", "*b", "**/", "/**", "[ab]", "[!a]", "\\*", "a/b", "*a*", "-", "]", "!", "a\\\\"}
	against := append(texts(3, "ab/"), "*", "]", "!", "-", "a\\")
	matched := 0
	for _, p := range patterns {
		for _, q := range patterns {
			for _, s := range against {
				if !Match(p, s) {
					continue
				}
				for _, u := range against {
					if Match(q, u) {
						matched++
						if !Match(p+q, s+u) {
							t.Errorf("%q, %q: %q, %q", p, q, s, u)
						}
					}
				}
			}
		}
	}
	if matched < 5000 {
		t.Error("too few:", matched)
	}
}

// The longest patterns, with as many signs as there may be.
func TestLongestPatterns(t *testing.T) {
	for n := 60; n <= api.MaxPattern; n++ {
		bytes := strings.Repeat("a", n)
		for _, p := range []string{bytes, strings.Repeat("?", n), "*" + bytes[1:], bytes[1:] + "*", "**" + bytes[2:]} {
			if !Match(p, bytes) || Match(p, bytes[3:]) || Match(p, bytes+"b") && !strings.HasSuffix(p, "*") {
				t.Error(n, p)
			}
		}
	}
	stars := strings.Repeat("a*", 50)
	if !Match(stars, strings.Repeat("a", 50)) || Match(stars, strings.Repeat("a", 49)) || !Match(stars, strings.Repeat("ab", 50)) {
		t.Error("fifty stars")
	}
}

// A text is gone through once, also where there are many ways to match it.
func TestManyWays(t *testing.T) {
	long := strings.Repeat("a", 1<<17)
	for _, p := range []string{strings.Repeat("a*", 49) + "b", strings.Repeat("**a", 33), strings.Repeat("*a**a", 19) + "b", "**a*b", "*", "**b"} {
		want := p == "*" || strings.HasSuffix(p, "a")
		if Match(p, long) != want || Match(p, long+"/") {
			t.Error(p)
		}
	}
	half := long + "/" + long
	if !Match("**a*/*a", half) || Match("**a*b", half) || Match("*a", half) {
		t.Error("two halves")
	}
}
