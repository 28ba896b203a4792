package meta

import (
	"bytes"
	"math"
	"math/big"
	"regexp"
	"slices"
	"strings"
	"testing"

	"remora/api"
	"remora/num"
)

// names: for each bit of a mode, the highest first, whose it is, and its letter.
var names = []struct{ who, letter string }{
	{"u", "s"}, {"g", "s"}, {"o", "t"},
	{"u", "r"}, {"u", "w"}, {"u", "x"}, {"g", "r"}, {"g", "w"}, {"g", "x"}, {"o", "r"}, {"o", "w"}, {"o", "x"},
}

// texts: all texts of at most so many of the signs.
func texts(most int, signs string) []string {
	out := []string{""}
	from := 0
	for range most {
		to := len(out)
		for _, s := range out[from:to] {
			for i := range len(signs) {
				out = append(out, s+signs[i:i+1])
			}
		}
		from = to
	}
	return out
}

// subsets: all choices of letters, each at most once, in their order.
func subsets(letters string) []string {
	out := []string{""}
	for _, c := range strings.Split(letters, "") {
		for _, s := range slices.Clone(out) {
			out = append(out, s+c)
		}
	}
	return out
}

// edges: metas at both ends of each field and beyond them, all else as it may be, and whether they may be.
func edges() (out []api.Meta, may []bool) {
	at := []struct{ least, most int }{{0, 4095}, {-1 << 40, 1 << 40}, {0, 999999999}, {0, 1<<31 - 1}, {0, 1<<31 - 1}}
	for i, r := range at {
		for _, n := range []int{math.MinInt, r.least - 1, r.least, r.least + 1, 0, 1, 127, 128, 300, r.most - 1, r.most, r.most + 1, math.MaxInt} {
			all := [5]int{0644, 1700000000, 5, 1000, 100}
			all[i] = n
			out = append(out, api.Meta{Mode: all[0], Sec: all[1], Nano: all[2], Uid: all[3], Gid: all[4]})
			may = append(may, n >= r.least && n <= r.most)
		}
	}
	return append(out, api.Meta{}, api.Meta{Mode: 4095, Sec: 1 << 40, Nano: 999999999, Uid: 1<<31 - 1, Gid: 1<<31 - 1}, api.Meta{Sec: -1 << 40}), append(may, true, true, true)
}

func TestCheck(t *testing.T) {
	l, may := edges()
	for i, m := range l {
		want := api.ErrArg
		if may[i] {
			want = api.OK
		}
		if err := Check(m); err != want {
			t.Errorf("Check(%+v) = %d", m, err)
		}
	}
}

// plainText: a mode's letters, as the chapter's words have them.
func plainText(mode int) string {
	out := ""
	for i, x := range names[3:] {
		has := mode>>(8-i)&1 == 1
		special := i%3 == 2 && mode>>(11-i/3)&1 == 1
		letter := x.letter
		if special {
			letter = names[i/3].letter
		}
		switch {
		case !has && special:
			letter = strings.ToUpper(letter)
		case !has:
			letter = "-"
		}
		out += letter
	}
	return out
}

// P16.1: all modes, as letters, and back.
func TestTextAndParse(t *testing.T) {
	rows := []struct {
		mode int
		want string
	}{
		{0755, "rwxr-xr-x"}, {04711, "rws--x--x"}, {0, "---------"}, {07777, "rwsrwsrwt"}, {0777, "rwxrwxrwx"}, {07000, "--S--S--T"}, {04000, "--S------"}, {02000, "-----S---"}, {01000, "--------T"}, {04100, "--s------"}, {02010, "-----s---"}, {01001, "--------t"},
		{0400, "r--------"}, {0200, "-w-------"}, {0100, "--x------"}, {040, "---r-----"}, {020, "----w----"}, {010, "-----x---"}, {4, "------r--"}, {2, "-------w-"}, {1, "--------x"},
		{-1, ""}, {4096, ""}, {math.MinInt, ""}, {math.MaxInt, ""},
	}
	for _, r := range rows {
		if got := Text(r.mode); got != r.want {
			t.Errorf("Text(%o) = %q", r.mode, got)
		}
	}
	for mode := range api.MaxMode + 1 {
		s := Text(mode)
		if s != plainText(mode) {
			t.Errorf("Text(%o) = %q", mode, s)
		}
		if back, err := Parse(s); back != mode || err != api.OK {
			t.Errorf("Parse(%q) = %o, %d", s, back, err)
		}
	}
}

// P16.1: what is no mode's letters is ErrForm; all else is one mode's.
func TestParseWrong(t *testing.T) {
	for _, s := range []string{"", "-", "--------", "----------", "rwxr-xr-", "rwxr-xr-xx", " rwxr-xr-x", "RWXR-XR-X", "wrxr-xr-x", "rwxr-xr-s", "rwtr-xr-x", "rwxr-tr-x", "rwxr-xr-S", "rwTr-xr-x", "0755", "rw\x00r-xr-x", "rwxr-xr-é", "drwxr-xr-x", "--s--s--s", strings.Repeat("-", 1<<20)} {
		if mode, err := Parse(s); mode != 0 || err != api.ErrForm {
			t.Errorf("Parse(%q) = %o, %d", s, mode, err)
		}
	}
	for place := range 9 {
		for c := range 256 {
			for _, like := range []string{"---------", "rwxrwxrwx", "rwsrwsrwt"} {
				s := like[:place] + string([]byte{byte(c)}) + like[place+1:]
				mode, err := Parse(s)
				switch err {
				case api.OK:
					if plainText(mode) != s {
						t.Errorf("Parse(%q) = %o", s, mode)
					}
				case api.ErrForm:
					if mode != 0 || c < 128 && slices.ContainsFunc([]int{0, 0777, 07777, 07000}, func(m int) bool { return plainText(m)[place] == byte(c) }) {
						t.Errorf("Parse(%q) = %o, %d", s, mode, err)
					}
				default:
					t.Errorf("Parse(%q): %d", s, err)
				}
			}
		}
	}
}

// plainChange: a mode behind one word, bit by bit as the chapter's words have it.
func plainChange(mode int, who, how, what string, dir bool) int {
	if who == "" || strings.Contains(who, "a") {
		who = "ugo"
	}
	if strings.Contains(what, "X") && (dir || mode&0111 != 0) {
		what += "x"
	}
	out := 0
	for i, x := range names {
		bit := 2048 >> i
		is, asked := mode&bit != 0, strings.Contains(what, x.letter)
		switch {
		case !strings.Contains(who, x.who):
		case how == "+":
			is = is || asked
		case how == "-":
			is = is && !asked
		case how == "=":
			is = asked
		}
		if is {
			out |= bit
		}
	}
	return out
}

// P16.2: all words, on many modes.
func TestAllWords(t *testing.T) {
	for _, who := range subsets("ugoa") {
		for _, how := range []string{"+", "-", "="} {
			for _, what := range subsets("rwxXst") {
				word := who + how + what
				for mode := len(word); mode <= api.MaxMode; mode += 23 {
					for _, dir := range []bool{false, true} {
						got, err := Change(mode, word, dir)
						if want := plainChange(mode, who, how, what, dir); got != want || err != api.OK {
							t.Fatalf("Change(%o, %q, %v) = %o, %d, want %o", mode, word, dir, got, err, want)
						}
						if got < 0 || got > api.MaxMode {
							t.Fatalf("Change(%o, %q, %v) = %o", mode, word, dir, got)
						}
						if again, _ := Change(got, word, dir); how == "=" && !strings.Contains(what, "X") && again != got {
							t.Fatalf("Change(%o, %q, %v) = %o, then %o", mode, word, dir, got, again)
						}
					}
				}
			}
		}
	}
}

// Change: rows by hand.
func TestChangeRows(t *testing.T) {
	rows := []struct {
		mode  int
		words string
		dir   bool
		want  int
	}{
		{0644, "u+x,go-r", false, 0700}, {0644, "a+X", false, 0644}, {0644, "a+X", true, 0755}, {0744, "a+X", false, 0755}, {0645, "u+X", false, 0745}, {0755, "a-X", false, 0644}, {0644, "a-X", false, 0644}, {0655, "u=X", false, 0155}, {0644, "u=X", false, 0044},
		{0, "+rwx", false, 0777}, {07777, "-", false, 07777}, {07777, "+", false, 07777}, {07777, "=", false, 0}, {07777, "u=", false, 03077}, {07777, "g=", false, 05707}, {07777, "o=", false, 06770}, {07777, "uo=r", false, 02474}, {0, "=rwxXst", false, 07777}, {0, "ugoa=", false, 0},
		{0, "+s", false, 06000}, {0, "u+s", false, 04000}, {0, "g+s", false, 02000}, {0, "o+s", false, 0}, {0, "a+s", false, 06000}, {0, "o+t", false, 01000}, {0, "u+t", false, 0}, {0, "ug+t", false, 0}, {0, "a+t", false, 01000}, {07777, "o-s", false, 07777}, {07777, "u-st", false, 03777},
		{0644, "u+x,a+X", false, 0755}, {0755, "a-x,a+X", false, 0644}, {0755, "a=X", false, 0111}, {0644, "a=X", true, 0111}, {0, "u=rw,g=r,o=", false, 0640}, {0, "a+r,u+w,a+X", true, 0755},
	}
	for _, r := range rows {
		if got, err := Change(r.mode, r.words, r.dir); got != r.want || err != api.OK {
			t.Errorf("Change(%o, %q, %v) = %o, %d", r.mode, r.words, r.dir, got, err)
		}
	}
}

// Change: which texts are words, and what comes first.
func TestWords(t *testing.T) {
	right := regexp.MustCompile(`\Au?g?o?a?[-+=]r?w?x?X?s?t?(,u?g?o?a?[-+=]r?w?x?X?s?t?)*\z`)
	l := append(texts(4, "ugoarwxXst+-=,"), texts(7, "ax+,")...)
	l = append(l, "u+x,go-r", "u+x,", ",u+x", "u+x,,g+x", "u+x, g+x", " u+x", "u+x ", "u+x\n", "ugoa+rwxXst", "ugoa=rwxXst,ugoa-rwxXst,+", "gu+x", "au+x", "uu+x", "u+xx", "u+xr", "u+Xx", "u+ts", "u+x-w", "u++x", "u", "ugo", "0755", "u+\x00", "u\x00+x", "é+x", "u*x", "U+x", "u+R", strings.Repeat("+,", 1<<20)+"+", strings.Repeat("+,", 1<<20))
	met := 0
	for _, words := range l {
		want := api.ErrForm
		if right.MatchString(words) {
			want = api.OK
			met++
		}
		mode, err := Change(0640, words, false)
		if err != want || err != api.OK && mode != 0 {
			t.Errorf("Change(%.40q) = %o, %d", words, mode, err)
		}
	}
	if met < 500 {
		t.Error("too few:", met)
	}
	for _, mode := range []int{-1, 4096, math.MinInt, math.MaxInt} {
		for _, words := range []string{"", "x", "a=r"} {
			if got, err := Change(mode, words, true); got != 0 || err != api.ErrArg {
				t.Errorf("Change(%d, %q) = %o, %d", mode, words, got, err)
			}
		}
	}
}

// Change: words are done one behind the other.
func TestWordsInARow(t *testing.T) {
	few := []string{"u+x", "go-r", "a+X", "a-X", "=r", "u=", "g=Xs", "o+t", "-x", "a=rwx", "ug-w"}
	for _, a := range few {
		for _, b := range few {
			for _, c := range few {
				for mode := 0; mode <= api.MaxMode; mode += 251 {
					want := mode
					for _, word := range []string{a, b, c} {
						want, _ = Change(want, word, false)
					}
					if got, err := Change(mode, a+","+b+","+c, false); got != want || err != api.OK {
						t.Fatalf("%o by %s, %s, %s: %o, %d, want %o", mode, a, b, c, got, err, want)
					}
				}
			}
		}
	}
}

// plainNear: as the chapter says it, in billionths that have room.
func plainNear(a, b api.Meta, window int) bool {
	billionths := func(sec, nano int) *big.Int {
		n := new(big.Int).Mul(big.NewInt(int64(sec)), big.NewInt(1000000000))
		return n.Add(n, big.NewInt(int64(nano)))
	}
	apart := new(big.Int).Sub(billionths(a.Sec, a.Nano), billionths(b.Sec, b.Nano))
	return apart.CmpAbs(billionths(min(max(window, 0), 1<<31-1), 0)) <= 0
}

// P16.3: times at many places, by many windows.
func TestNear(t *testing.T) {
	var l []api.Meta
	for _, sec := range []int{-api.MaxSec, -1 << 31, -2, -1, 0, 1, 2, 3, 1<<31 - 2, 1<<31 - 1, 1 << 31, 1<<31 + 1, api.MaxSec - 1, api.MaxSec} {
		for _, nano := range []int{0, 1, 500000000, api.MaxNano - 1, api.MaxNano} {
			l = append(l, api.Meta{Mode: len(l), Sec: sec, Nano: nano, Uid: 7 * len(l), Gid: len(l)})
		}
	}
	met := 0
	for _, a := range l {
		for _, b := range l {
			for _, window := range []int{math.MinInt, -1, 0, 1, 2, 3, 4, 1<<31 - 2, 1<<31 - 1, 1 << 31, 1 << 41, math.MaxInt} {
				want := plainNear(a, b, window)
				if Near(a, b, window) != want || Near(b, a, window) != want {
					t.Fatalf("Near(%+v, %+v, %d) = %v", a, b, window, !want)
				}
				if want && a != b {
					met++
				}
			}
		}
	}
	if met < 1000 {
		t.Error("too few:", met)
	}
}

// P16.3: a meta that may be is Near itself; one that may not be is near none.
func TestNearItself(t *testing.T) {
	l, may := edges()
	for i, m := range l {
		like := api.Meta{Sec: m.Sec, Nano: m.Nano}
		for _, window := range []int{-5, 0, math.MaxInt} {
			if Near(m, m, window) != may[i] {
				t.Errorf("Near(%+v, itself, %d)", m, window)
			}
			if !may[i] && (Near(m, like, window) || Near(like, m, window)) {
				t.Errorf("Near(%+v, %+v, %d)", m, like, window)
			}
		}
	}
}

// Take: each choice of options, of any metas.
func TestTake(t *testing.T) {
	a, b := api.Meta{Mode: 1, Sec: 2, Nano: 3, Uid: 4, Gid: 5}, api.Meta{Mode: -6, Sec: math.MaxInt, Nano: -8, Uid: math.MinInt, Gid: -10}
	rows := []struct {
		o    api.Opts
		want api.Meta
	}{
		{api.Opts{}, b}, {api.Opts{Perms: true}, api.Meta{Mode: 1, Sec: b.Sec, Nano: -8, Uid: b.Uid, Gid: -10}}, {api.Opts{Times: true}, api.Meta{Mode: -6, Sec: 2, Nano: 3, Uid: b.Uid, Gid: -10}}, {api.Opts{Owner: true}, api.Meta{Mode: -6, Sec: b.Sec, Nano: -8, Uid: 4, Gid: 5}},
		{api.Opts{Perms: true, Times: true}, api.Meta{Mode: 1, Sec: 2, Nano: 3, Uid: b.Uid, Gid: -10}}, {api.Opts{Perms: true, Owner: true}, api.Meta{Mode: 1, Sec: b.Sec, Nano: -8, Uid: 4, Gid: 5}}, {api.Opts{Times: true, Owner: true}, api.Meta{Mode: -6, Sec: 2, Nano: 3, Uid: 4, Gid: 5}}, {api.Opts{Perms: true, Times: true, Owner: true}, a},
		{api.Opts{Checksum: true, SizeOnly: true, Update: true, Existing: true, NewOnly: true, Links: true, Hard: true, Safe: true, Partial: true, Fuzzy: true, Moves: true, Whole: true, Dry: true, Delete: 3, Window: 9}, b},
	}
	for _, r := range rows {
		if got := Take(a, b, r.o); got != r.want {
			t.Errorf("Take by %+v = %+v", r.o, got)
		}
	}
	if got := Take(b, a, rows[7].o); got != b {
		t.Error(got)
	}
}

// plainBytes: the bytes of five numbers, the second with a sign.
func plainBytes(mode, sec, nano, uid, gid int) []byte {
	return bytes.Join([][]byte{num.Put(nil, mode), num.PutInt(nil, sec), num.Put(nil, nano), num.Put(nil, uid), num.Put(nil, gid)}, nil)
}

// P16.1: metas as bytes, and back, whatever stands around.
func TestBytesAndRead(t *testing.T) {
	if b, err := Bytes(api.Meta{Mode: 300, Sec: -1, Nano: 2, Uid: 3, Gid: 128}); !bytes.Equal(b, []byte{172, 2, 1, 2, 3, 128, 1}) || err != api.OK {
		t.Error(b, err)
	}
	l, may := edges()
	for i, m := range l {
		b, err := Bytes(m)
		if !may[i] {
			if b != nil || err != api.ErrArg {
				t.Errorf("Bytes(%+v) = %v, %d", m, b, err)
			}
			continue
		}
		if !bytes.Equal(b, plainBytes(m.Mode, m.Sec, m.Nano, m.Uid, m.Gid)) || err != api.OK {
			t.Errorf("Bytes(%+v) = %v, %d", m, b, err)
		}
		for ahead := range 3 {
			laid := append(bytes.Repeat([]byte{200}, ahead), b...)
			if back, behind, err := Read(append(laid, 255, 7), ahead); back != m || behind != len(laid) || err != api.OK {
				t.Errorf("Read of %+v = %+v, %d, %d", m, back, behind, err)
			}
			if back, behind, err := Read(laid, ahead); back != m || behind != len(laid) || err != api.OK {
				t.Errorf("Read of %+v = %+v, %d, %d", m, back, behind, err)
			}
			for end := ahead; end < len(laid); end++ {
				if back, behind, err := Read(laid[:end], ahead); back != (api.Meta{}) || behind != 0 || err != api.ErrEnd {
					t.Errorf("Read of a part of %+v = %+v, %d, %d", m, back, behind, err)
				}
			}
		}
	}
}

// Read: num's errors from the left, and then that it may not be.
func TestReadWrong(t *testing.T) {
	long, padded := bytes.Repeat([]byte{255}, 9), []byte{128, 0}
	over := append(bytes.Repeat([]byte{255}, 8), 127)
	rows := []struct {
		b   []byte
		at  int
		err api.Errno
	}{
		{nil, 0, api.ErrEnd}, {nil, 1, api.ErrRange}, {nil, -1, api.ErrRange}, {[]byte{0, 0, 0, 0, 0}, 6, api.ErrRange}, {[]byte{0, 0, 0, 0, 0}, 5, api.ErrEnd}, {[]byte{0, 0, 0, 0, 0}, 1, api.ErrEnd}, {[]byte{0, 0, 0, 0, 0}, math.MaxInt, api.ErrRange}, {[]byte{0, 0, 0, 0, 0}, math.MinInt, api.ErrRange},
	}
	for i := range 5 {
		ahead := make([]byte, i)
		rows = append(rows, []struct {
			b   []byte
			at  int
			err api.Errno
		}{
			{slices.Concat(ahead, long, []byte{0, 0, 0, 0, 0}), 0, api.ErrForm}, {slices.Concat(ahead, padded, []byte{0, 0, 0, 0, 0}), 0, api.ErrForm}, {slices.Concat(ahead, over, []byte{0, 0, 0, 0, 0}), 0, api.ErrBig}, {slices.Concat(ahead, over, padded), 0, api.ErrBig}, {slices.Concat(ahead, padded, over), 0, api.ErrForm}, {slices.Concat(ahead, []byte{128}), 0, api.ErrEnd},
		}...)
	}
	l, may := edges()
	for i, m := range l {
		if may[i] || m.Mode < 0 || m.Nano < 0 || m.Uid < 0 || m.Gid < 0 {
			continue
		}
		b := plainBytes(m.Mode, m.Sec, m.Nano, m.Uid, m.Gid)
		whole := num.Put(nil, m.Gid)
		rows = append(rows, []struct {
			b   []byte
			at  int
			err api.Errno
		}{
			{b, 0, api.ErrArg}, {append(slices.Clone(b), 1, 2), 0, api.ErrArg}, {b[:len(b)-len(whole)], 0, api.ErrEnd}, {append(b[:len(b)-len(whole):len(b)-len(whole)], padded...), 0, api.ErrForm},
		}...)
	}
	for _, r := range rows {
		before := slices.Clone(r.b)
		if m, behind, err := Read(r.b, r.at); m != (api.Meta{}) || behind != 0 || err != r.err {
			t.Errorf("Read(%v, %d) = %+v, %d, %d, want %d", r.b, r.at, m, behind, err, r.err)
		}
		if !bytes.Equal(before, r.b) {
			t.Error("changed")
		}
	}
	if len(rows) < 60 {
		t.Error("too few:", len(rows))
	}
}

// Two answers share nothing.
func TestMemory(t *testing.T) {
	one, _ := Bytes(api.Meta{Mode: 5})
	two, _ := Bytes(api.Meta{Mode: 5})
	_ = append(one, 9)
	clear(one)
	if !bytes.Equal(two, []byte{5, 0, 0, 0, 0}) {
		t.Error(two)
	}
}
