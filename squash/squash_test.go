package squash

import (
	"bytes"
	"encoding/binary"
	"math"
	"slices"
	"strings"
	"testing"

	"remora/api"
)

// number: n as bytes.
func number(n int) []byte { return binary.AppendUvarint(nil, uint64(n)) }

// run, match: the bytes of each.
func run(told string) []byte            { return append(number(2*len(told)), told...) }
func match(length, distance int) []byte { return append(number(2*(length-4)+1), number(distance)...) }

// all: parts, one behind the other.
func all(parts ...[]byte) []byte { return bytes.Join(parts, nil) }

// nines: a number that is too long: nine bytes, none of them the last one.
func nines() []byte { return bytes.Repeat([]byte{128}, 9) }

// dice: numbers that look like chance.
type dice uint32

func (d *dice) below(n int) int {
	*d = *d*1664525 + 1013904223
	return int(*d>>8) % n
}

// text: so many bytes, of so many kinds.
func (d *dice) text(n, kinds int) []byte {
	out := make([]byte, n)
	for i := range out {
		out[i] = byte('a' + d.below(kinds))
	}
	return out
}

// echoes: a text of which much stands ahead already, near and far, short and long.
func (d *dice) echoes(n int) []byte {
	var out []byte
	for len(out) < n {
		if len(out) == 0 || d.below(3) == 0 {
			out = append(out, d.text(1+d.below(100), 26)...)
			continue
		}
		distance := 1 + d.below(min(len(out), 4200))
		for range 1 + d.below(150) {
			out = append(out, out[len(out)-distance])
		}
	}
	return out[:n]
}

// texts: of many kinds and lengths.
func texts() [][]byte {
	d := dice(2)
	out := [][]byte{nil, []byte("a"), []byte("aaaa"), []byte("aaaaa"), []byte("abcabcabcab"), bytes.Repeat([]byte{0}, 5000), bytes.Repeat([]byte("xyz"), 700)}
	for n := range 40 {
		out = append(out, d.text(n, 1), d.text(n, 2), d.text(n, 26), d.echoes(10*n))
	}
	for _, kinds := range []int{1, 2, 3, 5, 26} {
		out = append(out, d.text(1000, kinds), d.text(6000, kinds))
	}
	return append(out, d.echoes(9000), d.echoes(9001))
}

// lengthAt: how many bytes, 130 at most, from a place on are each the one that stands so far ahead.
func lengthAt(b []byte, at, distance int) int {
	n := 0
	for n < 130 && at+n < len(b) && b[at+n] == b[at+n-distance] {
		n++
	}
	return n
}

// plain: the packing, as the document's words have it: all distances are tried.
func plain(b []byte) []byte {
	var out []byte
	told := ""
	tell := func() {
		if told != "" {
			out = append(out, run(told)...)
		}
		told = ""
	}
	for at := 0; at < len(b); {
		length, distance := 0, 0
		for d := 1; d <= 4096 && d <= at; d++ {
			if n := lengthAt(b, at, d); n > length {
				length, distance = n, d
			}
		}
		if length < 4 {
			told += string(b[at : at+1])
			at++
			continue
		}
		tell()
		out = append(out, match(length, distance)...)
		at += length
	}
	tell()
	return out
}

// Pack: by the one rule.
func TestPackIsTheRule(t *testing.T) {
	for _, b := range texts() {
		if got, want := Pack(b), plain(b); !bytes.Equal(got, want) {
			t.Fatalf("Pack of %d bytes (%.60q): %.80v, not %.80v", len(b), b, got, want)
		}
	}
}

// Pack: rows by hand, with the edges of lengths and distances.
func TestPackRows(t *testing.T) {
	// Of 4-byte pieces none of which comes twice, also not across two of them: a text without matches.
	plainText := func(n int) string {
		var s strings.Builder
		for i := 0; s.Len() < n; i++ {
			s.WriteByte(byte(i % 200))
			s.WriteByte(byte(i / 200))
			s.WriteByte(byte(200 + i/200%50))
		}
		return s.String()[:n]
	}
	far := plainText(4092)
	rows := []struct {
		name, text string
		want       []byte
	}{
		{"nothing", "", nil},
		{"the chapter's", "abcabcabcab", []byte{6, 97, 98, 99, 9, 3}},
		{"one byte", "a", []byte{2, 97}},
		{"a match of 3 is none", "abcXabcY", run("abcXabcY")},
		{"a match of 4", "abcdXabcd", all(run("abcdX"), match(4, 5))},
		{"a match of 4 at 1", "aaaaa", all(run("a"), match(4, 1))},
		{"four alike: 3 are too few", "aaaa", run("aaaa")},
		{"a match of 130", strings.Repeat("a", 131), all(run("a"), match(130, 1))},
		{"131: one is left", strings.Repeat("a", 132), all(run("a"), match(130, 1), run("a"))},
		{"134: four are left", strings.Repeat("a", 135), all(run("a"), match(130, 1), match(4, 1))},
		{"67: the length in one byte", strings.Repeat("a", 68), all(run("a"), []byte{127, 1})},
		{"68: in two", strings.Repeat("a", 69), all(run("a"), []byte{129, 1, 1})},
		{"the least distance of the greatest length", "abcdXabcdYabcd", all(run("abcdX"), match(4, 5), run("Y"), match(4, 5))},
		{"the greatest length, farther", "abcdeXabcdYabcde", all(run("abcdeX"), match(4, 6), run("Y"), match(5, 11))},
		{"greedy: not the longer one behind", "abcd.bcdefg.abcdefg", all(run("abcd.bcdefg."), match(4, 12), run("efg"))},
		{"matches side by side", "abcdefgh.efghabcd", all(run("abcdefgh."), match(4, 5), match(4, 13))},
		{"4096 ahead", "wxyz" + far + "wxyz", all(run("wxyz"+far), match(4, 4096))},
		{"4097 ahead is too far", "wxyz" + far + "!wxyz", run("wxyz" + far + "!wxyz")},
		{"one that is too far, and a nearer one", "wxyz" + far[:2000] + "wxyz" + far[2000:] + "!wxyz", all(run("wxyz"+far[:2000]), match(4, 2004), run(far[2000:]+"!"), match(4, 2097))},
		{"a run of 63", far[:63], all([]byte{126}, []byte(far[:63]))},
		{"a run of 64", far[:64], all([]byte{128, 1}, []byte(far[:64]))},
	}
	for _, r := range rows {
		if got := Pack([]byte(r.text)); !bytes.Equal(got, r.want) {
			t.Errorf("Pack, %s: %.60v, want %.60v", r.name, got, r.want)
		}
	}
}

// Pack of the greatest text, and of more.
func TestPackLimits(t *testing.T) {
	d := dice(8)
	for _, b := range [][]byte{make([]byte, api.MaxFile), d.text(api.MaxFile, 26), d.text(api.MaxFile, 2), d.echoes(api.MaxFile)} {
		p := Pack(b)
		if got, err := Unpack(p, api.MaxFile); err != api.OK || !bytes.Equal(got, b) || len(p) > Bound(len(b)) {
			t.Errorf("the greatest text, %.20q: %d bytes, %d", b, len(p), err)
		}
	}
	if got := Pack(make([]byte, api.MaxFile+1)); len(got) != 0 {
		t.Errorf("Pack of a text that is too long: %v", got)
	}
}

// P10.1, P10.2.
func TestThereAndBack(t *testing.T) {
	for _, b := range texts() {
		p := Pack(b)
		if n, err := Check(p); n != len(b) || err != api.OK {
			t.Fatalf("Check, of %.60q: %d, %d", b, n, err)
		}
		for _, most := range []int{len(b), len(b) + 1, math.MaxInt} {
			if got, err := Unpack(p, most); err != api.OK || !bytes.Equal(got, b) {
				t.Fatalf("Unpack, of %.60q: %.60q, %d", b, got, err)
			}
		}
		if len(p) > Bound(len(b)) {
			t.Fatalf("Pack of %.60q has %d bytes, more than %d", b, len(p), Bound(len(b)))
		}
	}
}

// P10.2: texts that can't be made smaller, of lengths at which the run's number grows.
func TestBoundHolds(t *testing.T) {
	noise := make([]byte, api.MaxFile)
	seed := uint64(5)
	for i := range noise {
		seed = seed*6364136223846793005 + 1442695040888963407
		noise[i] = byte(seed >> 56)
	}
	for _, n := range []int{0, 1, 63, 64, 65, 127, 128, 8191, 8192, 8193, 60000, api.MaxFile} {
		p := Pack(noise[:n])
		if len(p) > n+n/64+3 {
			t.Errorf("%d bytes of noise: %d", n, len(p))
		}
	}
	// Runs of 64 bytes, the first ones whose number has two bytes, each with the smallest match behind it.
	var b []byte
	for len(b)+68 < api.MaxFile {
		b = append(b, noise[len(b):len(b)+64]...)
		b = append(b, b[max(0, len(b)-3000):][:4]...)
	}
	if p := Pack(b); len(p) > Bound(len(b)) {
		t.Errorf("runs and small matches, %d bytes: %d", len(b), len(p))
	}
}

// Bound: its numbers.
func TestBound(t *testing.T) {
	rows := [][2]int{{0, 3}, {1, 4}, {63, 66}, {64, 68}, {65, 69}, {127, 131}, {128, 133}, {api.MaxFile - 1, 66561}, {api.MaxFile, 66563}, {api.MaxFile + 1, 0}, {-1, 0}, {math.MaxInt, 0}, {math.MinInt, 0}}
	for _, r := range rows {
		if got := Bound(r[0]); got != r[1] {
			t.Errorf("Bound(%d): %d, not %d", r[0], got, r[1])
		}
	}
}

// P10.3: what is cut short within a run or a match is refused; behind one of them it is the text so far.
func TestCutShort(t *testing.T) {
	d := dice(4)
	list := [][]byte{[]byte("abcabcabcab"), d.echoes(700), d.echoes(3000), d.text(200, 2), d.text(200, 26), bytes.Repeat([]byte("ab"), 300)}
	for _, b := range list {
		p := Pack(b)
		ends := map[int]int{0: 0} // of each place behind a run or a match, how long the text is by then
		size := 0
		for at := 0; at < len(p); {
			head, n := binary.Uvarint(p[at:])
			at += n
			if head%2 == 0 {
				at += int(head / 2)
				size += int(head / 2)
			} else {
				_, n := binary.Uvarint(p[at:])
				at += n
				size += int(head/2) + 4
			}
			ends[at] = size
		}
		for cut := range len(p) + 1 {
			n, err := Check(p[:cut])
			want, whole := ends[cut]
			if whole && (n != want || err != api.OK) || !whole && (n != 0 || err != api.ErrEnd) {
				t.Fatalf("Check of %.60q, cut at %d: %d, %d", p, cut, n, err)
			}
			got, err := Unpack(p[:cut], api.MaxFile)
			if whole && (!bytes.Equal(got, b[:want]) || err != api.OK) || !whole && (len(got) != 0 || err != api.ErrEnd) {
				t.Fatalf("Unpack of %.60q, cut at %d: %.60q, %d", p, cut, got, err)
			}
		}
	}
}

// Check and Unpack take what Pack would not give: whether it does is not asked.
func TestOtherPackings(t *testing.T) {
	long := string(bytes.Repeat([]byte{7}, 4096))
	rows := []struct {
		name string
		b    []byte
		want string
	}{
		{"nothing", nil, ""},
		{"a run that could be a match", run("aaaaaaaa"), "aaaaaaaa"},
		{"a match that is not the longest one", all(run("abc"), match(4, 3), match(4, 3)), "abcabcabcab"},
		{"a match that is not the nearest one", all(run("aaaa"), match(4, 4)), "aaaaaaaa"},
		{"a match into itself", all(run("ab"), match(7, 2)), "ababababa"},
		{"of the byte ahead", all(run("ab"), match(5, 1)), "abbbbbb"},
		{"matches, and a run between", all(run("ab"), match(4, 2), run("c"), match(4, 7)), "abababcabab"},
		{"the greatest length", all(run("x"), match(130, 1)), strings.Repeat("x", 131)},
		{"the greatest distance", all(run("z"+long[1:]), match(4, 4096)), "z" + long[1:] + "z\x07\x07\x07"},
		{"the greatest run", run(strings.Repeat("q", api.MaxFile)), strings.Repeat("q", api.MaxFile)},
		{"the greatest text, by a match", all(run(strings.Repeat("q", api.MaxFile-4)), match(4, 1)), strings.Repeat("q", api.MaxFile)},
		{"the greatest text, by a run", all(run(strings.Repeat("q", api.MaxFile-5)), match(4, 1), run("q")), strings.Repeat("q", api.MaxFile)},
	}
	for _, r := range rows {
		if n, err := Check(r.b); n != len(r.want) || err != api.OK {
			t.Errorf("Check, %s: %d, %d", r.name, n, err)
		}
		if got, err := Unpack(r.b, len(r.want)); string(got) != r.want || err != api.OK {
			t.Errorf("Unpack, %s: %.60q, %d", r.name, got, err)
		}
	}
}

// What Check refuses, and Unpack with it, whatever may be the most.
func TestRefuses(t *testing.T) {
	full := run(strings.Repeat("q", api.MaxFile))
	nearly := run(strings.Repeat("q", api.MaxFile-3))
	big := number(1 << 62) // above MaxNum
	rows := []struct {
		name string
		b    []byte
		want api.Errno
	}{
		{"a number that does not end", []byte{128}, api.ErrEnd},
		{"a number that is too long", nines(), api.ErrForm},
		{"a number that is not the shortest", []byte{130, 0, 1}, api.ErrForm},
		{"a number that is too big", big, api.ErrBig},
		{"a wrong number behind a match", all(run("a"), match(4, 1), []byte{128}), api.ErrEnd},
		{"a wrong number behind a run, not that it may be a run", all(run("a"), []byte{130, 0}), api.ErrForm},
		{"a run of no bytes", []byte{0}, api.ErrForm},
		{"a run of no bytes behind a match", all(run("a"), match(4, 1), []byte{0}), api.ErrForm},
		{"two runs", all(run("a"), run("b")), api.ErrForm},
		{"two runs, the second one cut", all(run("a"), []byte{4}), api.ErrForm},
		{"two runs, the second one too big", all(run("a"), number(2*api.MaxFile+2)), api.ErrForm},
		{"a run that is too big", number(2*api.MaxFile + 2), api.ErrBig},
		{"a run that is too big, all there", run(strings.Repeat("q", api.MaxFile+1)), api.ErrBig},
		{"a run of the greatest number", number(1<<62 - 2), api.ErrBig},
		{"a run that is too big behind others", all(run("q"), match(4, 1), number(2*api.MaxFile-8)), api.ErrBig},
		{"a run that is cut, of the greatest length", number(2 * api.MaxFile), api.ErrEnd},
		{"a run that is cut", []byte{4, 97}, api.ErrEnd},
		{"a run of which nothing follows", []byte{2}, api.ErrEnd},
		{"a match of 131", all(run("a"), match(131, 1)), api.ErrForm},
		{"a match of 131, and no distance", all(run("a"), number(2*127+1)), api.ErrForm},
		{"a match of the greatest number", all(run("a"), number(1<<62-1), []byte{1}), api.ErrForm},
		{"a match without a distance", all(run("a"), []byte{1}), api.ErrEnd},
		{"a distance that does not end", all(run("a"), []byte{1, 128}), api.ErrEnd},
		{"a distance that is too long", all(run("a"), []byte{1}, nines()), api.ErrForm},
		{"a distance that is not the shortest", all(run("a"), []byte{1, 129, 0}), api.ErrForm},
		{"a distance that is too big a number", all(run("a"), []byte{1}, big), api.ErrBig},
		{"a distance of 0", all(run("a"), match(4, 0)), api.ErrForm},
		{"a distance past the text", all(run("a"), match(4, 2)), api.ErrForm},
		{"a match at the beginning", match(4, 1), api.ErrForm},
		{"a distance of 4097", all(run(strings.Repeat("q", 5000)), match(4, 4097)), api.ErrForm},
		{"a match that is too big", all(nearly, match(4, 1)), api.ErrBig},
		{"a match behind the greatest text", all(full, match(4, 4096)), api.ErrBig},
		{"a match that is too big, with a wrong distance", all(full, match(4, 4097)), api.ErrForm},
		{"a match that is too big, without a distance", all(full, []byte{1}), api.ErrEnd},
		{"the first fault from the left", all(run("a"), match(4, 2), []byte{128}), api.ErrForm},
	}
	for _, r := range rows {
		if n, err := Check(r.b); n != 0 || err != r.want {
			t.Errorf("Check, %s: %d, %d, want %d", r.name, n, err, r.want)
		}
		for _, most := range []int{0, -1, api.MaxFile, math.MaxInt} {
			if got, err := Unpack(r.b, most); len(got) != 0 || err != r.want {
				t.Errorf("Unpack, %s, most %d: %.20q, %d, want %d", r.name, most, got, err, r.want)
			}
		}
	}
}

// Unpack of a text that is longer than may be.
func TestUnpackMost(t *testing.T) {
	p := Pack([]byte("abcabcabcab"))
	for _, most := range []int{10, 1, 0, -1, math.MinInt} {
		if got, err := Unpack(p, most); len(got) != 0 || err != api.ErrBig {
			t.Errorf("most %d: %q, %d", most, got, err)
		}
	}
	for _, most := range []int{0, 5, -1, math.MinInt, math.MaxInt} {
		if got, err := Unpack(nil, most); len(got) != 0 || err != api.OK {
			t.Errorf("nothing, most %d: %q, %d", most, got, err)
		}
	}
}

// Any bytes: Check and Unpack agree, and what is unpacked is packed anew.
func TestAnyBytes(t *testing.T) {
	d := dice(6)
	taken := 0
	for range 20000 {
		b := make([]byte, d.below(12))
		for i := range b {
			b[i] = byte(d.below(1 << (1 + d.below(8))))
		}
		n, err := Check(b)
		got, also := Unpack(b, api.MaxFile)
		if err != also || n != len(got) {
			t.Fatalf("%v: Check %d, %d; Unpack %q, %d", b, n, err, got, also)
		}
		if err != api.OK {
			continue
		}
		taken++
		if again, err := Unpack(Pack(got), n); err != api.OK || !bytes.Equal(again, got) {
			t.Fatalf("%v: %q is not packed anew: %q, %d", b, got, again, err)
		}
	}
	if taken < 100 {
		t.Errorf("only %d were taken", taken)
	}
}

// What is handed in is not changed, and an answer is new memory.
func TestNewMemory(t *testing.T) {
	for _, b := range [][]byte{[]byte("abcabcabcab"), []byte("no match"), bytes.Repeat([]byte("a"), 300)} {
		room := append(slices.Clone(b), "spare"...)
		p := Pack(room[:len(b)])
		if string(room) != string(b)+"spare" {
			t.Fatal("Pack changed what was handed in")
		}
		was := append(slices.Clone(p), "spare"...)
		packed := slices.Clone(was)[:len(p)]
		got, _ := Unpack(packed, len(b))
		clear(got[:cap(got)])
		if string(packed[:len(was)]) != string(was) {
			t.Fatal("what Unpack answers is what was handed in")
		}
		clear(p[:cap(p)])
		if string(room) != string(b)+"spare" {
			t.Fatal("what Pack answers is what was handed in")
		}
	}
}
