package flist

import (
	"bytes"
	"runtime"
	"slices"
	"strings"
	"testing"

	"remora/api"
)

// P20.3: what is laid, byte by byte.
func TestBytesRows(t *testing.T) {
	for i, r := range []struct {
		l    []api.Entry
		want []byte
	}{
		{nil, []byte{0}},
		{[]api.Entry{{Path: "ab", Kind: api.Dir, Size: 300, Meta: api.Meta{Mode: 1, Sec: -1, Nano: 3, Uid: 4, Gid: 128}}}, []byte{1, 0, 2, 'a', 'b', 2, 172, 2, 1, 1, 3, 4, 128, 1}},
		{[]api.Entry{{Path: "a", Kind: api.Link, Size: 2, Target: "t/", Meta: api.Meta{Sec: 1}}}, []byte{1, 0, 1, 'a', 3, 2, 0, 2, 0, 0, 0, 2, 't', '/'}},
		{[]api.Entry{{Path: "a", Kind: api.File, Sum: someSum, Group: 1}}, slices.Concat([]byte{1, 0, 1, 'a', 5, 0, 0, 0, 0, 0, 0}, []byte(someSum), []byte{1})},
		{[]api.Entry{dir("ab"), file("ab/c"), file("ab/cd"), file("abc"), file("x")}, []byte{5, 0, 2, 'a', 'b', 2, 0, 0, 0, 0, 0, 0, 2, 2, '/', 'c', 1, 0, 0, 0, 0, 0, 0, 0, 4, 1, 'd', 1, 0, 0, 0, 0, 0, 0, 0, 2, 1, 'c', 1, 0, 0, 0, 0, 0, 0, 0, 0, 1, 'x', 1, 0, 0, 0, 0, 0, 0, 0}},
		// By bytes, not by signs: both begin with the byte 195.
		{[]api.Entry{file("é"), file("ê")}, []byte{2, 0, 2, 195, 169, 1, 0, 0, 0, 0, 0, 0, 0, 1, 1, 170, 1, 0, 0, 0, 0, 0, 0, 0}},
	} {
		if b, err := Bytes(r.l); err != api.OK || !bytes.Equal(b, seal(r.want)) {
			t.Errorf("%d: %v %d, want %v", i, b, int(err), r.want)
		}
	}
}

// P20.5: there and back.
func TestThereAndBack(t *testing.T) {
	for i, l := range mayBe() {
		b, err := Bytes(l)
		if err != api.OK || !bytes.Equal(b, seal(plainBody(l))) {
			t.Errorf("the list %d: Bytes: %d", i, int(err))
		}
		if got, err := Read(b); err != api.OK || !Same(got, l) {
			t.Errorf("the list %d: Read: %v %d", i, got, int(err))
		}
	}
}

// reads: what Read answers of a body that was sealed.
func reads(t *testing.T, what any, body []byte, want []api.Entry, wantErr api.Errno) {
	t.Helper()
	got, err := Read(seal(body))
	if err != wantErr || !slices.Equal(got, want) || err != api.OK && got != nil {
		t.Errorf("%v: %.200q: %.300v %d, want %.300v %d", what, body, got, int(err), want, int(wantErr))
	}
}

// P20.4: what crc.Open refuses.
func TestReadSealed(t *testing.T) {
	b, _ := Bytes(example())
	for n := range b {
		want := api.ErrSum
		if n < 4 {
			want = api.ErrEnd
		}
		if l, err := Read(b[:n]); l != nil || err != want {
			t.Errorf("%d bytes: %v %d", n, l, int(err))
		}
		turned := bytes.Clone(b)
		turned[n] ^= 64
		if l, err := Read(turned); l != nil || err != api.ErrSum {
			t.Errorf("byte %d turned: %v %d", n, l, int(err))
		}
	}
	for _, b := range [][]byte{nil, {}, {1, 2, 3}} {
		if l, err := Read(b); l != nil || err != api.ErrEnd {
			t.Error(l, int(err))
		}
	}
	if l, err := Read([]byte{0, 0, 0, 0}); l != nil || err != api.ErrEnd { // the seal of no bytes: how many entries there are is not said
		t.Error(l, int(err))
	}
}

// big: a number above api.MaxNum; endless: none that ends; padded: one whose last byte is 0.
var (
	big     = []byte{255, 255, 255, 255, 255, 255, 255, 255, 127}
	endless = bytes.Repeat([]byte{128}, 9)
	padded  = []byte{129, 0}
)

// P20.4: what is wrong with a thing, whatever follows.
func TestReadThings(t *testing.T) {
	zero := make([]byte, 5) // the least meta
	dirs := slices.Concat([]byte{0, 1, 'a', 2, 0}, zero)
	for name, ahead := range map[string][]byte{
		"how many":      {},
		"like":          {1},
		"rest":          {1, 0},
		"kind":          {1, 0, 1, 'a'},
		"size":          {1, 0, 1, 'a', 1},
		"mode":          {1, 0, 1, 'a', 1, 0},
		"sec":           {1, 0, 1, 'a', 1, 0, 0},
		"nano":          {1, 0, 1, 'a', 1, 0, 0, 0},
		"uid":           {1, 0, 1, 'a', 1, 0, 0, 0, 0},
		"gid":           {1, 0, 1, 'a', 1, 0, 0, 0, 0, 0},
		"group":         slices.Concat([]byte{1, 0, 1, 'a', 1, 0}, zero),
		"summed group":  slices.Concat([]byte{1, 0, 1, 'a', 5, 0}, zero, []byte(someSum)),
		"target":        slices.Concat([]byte{1, 0, 1, 'a', 3, 0}, zero),
		"second like":   slices.Concat([]byte{2}, dirs),
		"second rest":   slices.Concat([]byte{2}, dirs, []byte{1}),
		"second kind":   slices.Concat([]byte{2}, dirs, []byte{1, 2, '/', 'b'}),
		"behind wrong":  slices.Concat([]byte{2, 0, 0, 1, 0}, zero, []byte{9}), // what Check refuses of the first one is told later
		"behind twice":  slices.Concat([]byte{3}, dirs, []byte{1, 0, 2, 0}, zero),
		"behind unlike": slices.Concat([]byte{3}, dirs, []byte{0, 2, 'a', 'b', 2, 0}, zero),
	} {
		for _, behind := range [][]byte{nil, {0}, {9}, bytes.Repeat([]byte{1}, 40)} {
			reads(t, name+", big", slices.Concat(ahead, big, behind), nil, api.ErrBig)
			reads(t, name+", endless", slices.Concat(ahead, endless, behind), nil, api.ErrForm)
			reads(t, name+", padded", slices.Concat(ahead, padded, behind), nil, api.ErrForm)
		}
		reads(t, name+", none", ahead, nil, api.ErrEnd)
		reads(t, name+", half", slices.Concat(ahead, []byte{128}), nil, api.ErrEnd)
	}
}

// P20.4: each error, by rows.
func TestReadRows(t *testing.T) {
	zero := make([]byte, 5)
	end := slices.Concat([]byte{0}, zero, []byte{0}) // the Size, Meta and Group of an empty file
	a := slices.Concat([]byte{0, 1, 'a', 1}, end)
	t200, sum := strings.Repeat("t", 200), []byte(someSum)
	for name, r := range map[string]struct {
		body [][]byte
		want api.Errno
	}{
		"one":                      {[][]byte{{1}, a}, api.OK},
		"like, of the first":       {[][]byte{{1, 1, 1, 'a', 1}, end}, api.ErrForm},
		"like too many":            {[][]byte{{2}, a, {2, 1, 'b', 1}, end}, api.ErrForm},
		"like far too many":        {[][]byte{{2}, a, big[:8], {63, 1, 'b', 1}, end}, api.ErrForm},
		"like ahead of rest":       {[][]byte{{2}, a, {2}, big}, api.ErrForm},
		"like as many":             {[][]byte{{2}, a, {1, 1, 'b', 1}, end}, api.OK},
		"like fewer":               {[][]byte{{2}, a, {0, 2, 'a', 'b', 1}, end}, api.ErrForm},
		"like fewer, wrong":        {[][]byte{{2}, a, {0, 1, 'a', 1}, end}, api.ErrThere},
		"rest too long":            {[][]byte{{1, 0}, text(t200 + "t"), {1}, end}, api.ErrBig},
		"rest too long, cut":       {[][]byte{{1, 0}, text(t200 + "t")[:9]}, api.ErrBig},
		"rest cut":                 {[][]byte{{1, 0}, text(t200)[:9]}, api.ErrEnd},
		"rest as long as may be":   {[][]byte{{1, 0}, text(t200), {1}, end}, api.ErrName},
		"no rest":                  {[][]byte{{1, 0, 0, 1}, end}, api.ErrName},
		"kind 0":                   {[][]byte{{1, 0, 1, 'a', 0}, end}, api.ErrKind},
		"kind 4":                   {[][]byte{{1, 0, 1, 'a', 4}, end, sum}, api.ErrKind},
		"kind 8":                   {[][]byte{{1, 0, 1, 'a', 8}, end}, api.ErrKind},
		"kind 9":                   {[][]byte{{1, 0, 1, 'a', 9}, end}, api.ErrKind},
		"kind 13":                  {[][]byte{{1, 0, 1, 'a', 13}, end}, api.ErrKind},
		"kind ahead of size":       {[][]byte{{1, 0, 1, 'a', 8}, big}, api.ErrKind},
		"kind of a wrong path":     {[][]byte{{1, 0, 1, '/', 8}, end}, api.ErrKind},
		"sum of a directory":       {[][]byte{{1, 0, 1, 'a', 6, 0}, zero, sum}, api.ErrArg},
		"sum of a directory, none": {[][]byte{{1, 0, 1, 'a', 6, 0}, zero}, api.ErrArg},
		"sum of a link":            {[][]byte{{1, 0, 1, 'a', 7, 1}, zero, {1, 't'}, sum}, api.ErrArg},
		"sum of a link, none":      {[][]byte{{1, 0, 1, 'a', 7, 1}, zero, {1, 't'}}, api.ErrArg},
		"sum behind size":          {[][]byte{{1, 0, 1, 'a', 6}, big}, api.ErrBig},
		"sum behind target":        {[][]byte{{1, 0, 1, 'a', 7, 1}, zero, big}, api.ErrBig},
		"sum of a wrong path":      {[][]byte{{1, 0, 1, '/', 6, 0}, zero, sum}, api.ErrArg},
		"sum":                      {[][]byte{{1, 0, 1, 'a', 5, 0}, zero, sum, {0}}, api.OK},
		"sum cut":                  {[][]byte{{1, 0, 1, 'a', 5, 0}, zero, sum[:31]}, api.ErrEnd},
		"no group":                 {[][]byte{{1, 0, 1, 'a', 5, 0}, zero, sum}, api.ErrEnd},
		"meta that may not be":     {[][]byte{{1, 0, 1, 'a', 1, 0, 128, 32, 0, 0, 0, 0, 0}}, api.ErrArg},
		"meta ahead of group":      {[][]byte{{1, 0, 1, 'a', 1, 0, 128, 32, 0, 0, 0, 0}}, api.ErrArg},
		"target too long":          {[][]byte{{1, 0, 1, 'a', 3, 201, 1}, zero, text(t200 + "t")}, api.ErrBig},
		"target as long as may be": {[][]byte{{1, 0, 1, 'a', 3, 200, 1}, zero, text(t200)}, api.OK},
		"target cut":               {[][]byte{{1, 0, 1, 'a', 3, 200, 1}, zero, text(t200)[:99]}, api.ErrEnd},
		"target of another size":   {[][]byte{{1, 0, 1, 'a', 3, 2}, zero, text("t")}, api.ErrArg},
		"no target":                {[][]byte{{1, 0, 1, 'a', 3, 0}, zero, text("")}, api.ErrArg},
		"left":                     {[][]byte{{1}, a, {0}}, api.ErrForm},
		"left, of none":            {[][]byte{{0}, a}, api.ErrForm},
		"left, of a wrong one":     {[][]byte{{1, 0, 1, '/', 1}, end, {0}}, api.ErrForm},
		"one too few":              {[][]byte{{2}, a}, api.ErrEnd},
		"very many":                {[][]byte{{255, 255, 255, 255, 255, 255, 255, 255, 63}, a}, api.ErrEnd},
		"path that may not be":     {[][]byte{{1, 0, 1, '/', 1}, end}, api.ErrName},
		"size that may not be":     {[][]byte{{1, 0, 1, 'a', 1, 129, 128, 4}, zero, {0}}, api.ErrArg},
		"there":                    {[][]byte{{2}, a, {1, 0, 1}, end}, api.ErrThere},
		"not rising":               {[][]byte{{2}, {0, 1, 'b', 1}, end, a}, api.ErrRange},
		"no directory":             {[][]byte{{2}, a, {1, 2, '/', 'b', 1}, end}, api.ErrNotDir},
		"group that may not be":    {[][]byte{{1, 0, 1, 'a', 1, 0}, zero, {2}}, api.ErrForm},
	} {
		body := slices.Concat(r.body...)
		l, err := plainRead(body)
		if err != r.want {
			t.Errorf("%s: the plain reader tells %d, want %d", name, int(err), int(r.want))
		}
		reads(t, name, body, l, r.want)
	}
}

// P20.4, P20.5: whatever is done to the bytes of a list, Read tells what the words say; what it reads is laid as these.
func TestReadChanged(t *testing.T) {
	met := map[api.Errno]int{}
	try := func(body []byte) {
		want, wantErr := plainRead(body)
		reads(t, "changed", body, want, wantErr)
		met[wantErr]++
		if wantErr != api.OK {
			return
		}
		if b, err := Bytes(want); err != api.OK || !bytes.Equal(b, seal(body)) {
			t.Errorf("%v is laid otherwise than it was read: %d", want, int(err))
		}
	}
	lists := [][]api.Entry{example(), {file("a"), file("b")}, {link("a", "tt"), link("ab", "ttt"), file("abc")}, {dir("a"), dir("a/b"), grouped("a/b/c", 1), grouped("a/c", 2), grouped("b", 1)}}
	for _, l := range lists {
		body := plainBody(l)
		for at := range body {
			try(body[:at])
			try(slices.Delete(slices.Clone(body), at, at+1))
			for c := range 256 {
				changed := slices.Clone(body)
				changed[at] = byte(c)
				try(changed)
				if c < 9 || c > 250 || c%29 == 0 {
					try(slices.Insert(slices.Clone(body), at, byte(c)))
				}
			}
		}
	}
	for _, err := range []api.Errno{api.OK, api.ErrArg, api.ErrRange, api.ErrEnd, api.ErrForm, api.ErrBig, api.ErrName, api.ErrThere, api.ErrNotDir, api.ErrKind} {
		if met[err] == 0 {
			t.Error("never told:", int(err))
		}
	}
}

// someEntry: the bytes of an entry, of few values; now and then a thing is lacking, or stands twice.
func (d *dice) someEntry() []byte {
	kind := []int{1, 1, 2, 2, 3, 5, 6, 7, d.below(10)}[d.below(9)]
	things := [][]byte{number(d.below(3)), text([]string{"a", "b", "/a", "/b", "/", "ab", ""}[d.below(7)]), number(kind), number(d.below(2)), make([]byte, 5)}
	if kind%4 == 3 {
		things = append(things, text("tt"[:d.below(3)]))
	}
	if kind > 4 {
		things = append(things, []byte(someSum))
	}
	if kind%4 == 1 {
		things = append(things, number(d.below(4)))
	}
	if d.below(9) == 0 {
		at := d.below(len(things))
		things[at] = slices.Repeat(things[at], d.below(2)*2)
	}
	return slices.Concat(things...)
}

// P20.4, P20.5: lists of bytes by chance, such that some of them are read.
func TestReadByChance(t *testing.T) {
	d := dice(4)
	met := map[api.Errno]int{}
	for range 100000 {
		n := d.below(5)
		body := number(n + d.below(20)/19)
		for range n {
			body = append(body, d.someEntry()...)
		}
		want, wantErr := plainRead(body)
		reads(t, "by chance", body, want, wantErr)
		if len(want) != 1 {
			met[wantErr]++
		}
	}
	for _, err := range []api.Errno{api.OK, api.ErrArg, api.ErrRange, api.ErrEnd, api.ErrForm, api.ErrName, api.ErrThere, api.ErrNotDir, api.ErrKind} {
		if met[err] < 50 {
			t.Error("too few:", int(err), met[err])
		}
	}
}

// P20.4: paths that grow beyond what may be: what is wrong behind them is told first, and it does not take much memory.
func TestReadLongPaths(t *testing.T) {
	rest := strings.Repeat("x", 200)
	var body []byte
	like, n := 0, 5000
	add := func(like int, rest string) {
		body = append(body, slices.Concat(number(like), text(rest), []byte{1, 0, 0, 0, 0, 0, 0, 0})...)
	}
	for range n {
		add(like, rest)
		like += len(rest)
	}
	grown := body
	with := func(more int) []byte { return append(number(n+more), body...) }
	reads(t, "grown", with(0), nil, api.ErrName)
	add(like, "")
	reads(t, "like all of it", with(1), nil, api.ErrName)
	body = slices.Clone(grown)
	add(like+1, "")
	reads(t, "like one more", with(1), nil, api.ErrForm)
	for _, back := range []int{0, 3, 199, 200, 201, 202, 500} {
		body = slices.Clone(grown)
		add(back, "")
		add(back, "y")
		reads(t, "back", with(2), nil, api.ErrName)
		add(back+2, "")
		reads(t, "back, and beyond", with(3), nil, api.ErrForm)
	}
	// One byte too long, and right without it.
	l := []api.Entry{dir(long), dir(long + "/" + long), dir(long + "/" + long + "/" + long), dir(long + "/" + long + "/" + long + "/" + long)}
	reads(t, "one too long", plainBody(append(l, file(longest+"e"))), nil, api.ErrName)
	sealed := seal(append(number(n), grown...))
	var ahead, behind runtime.MemStats
	runtime.ReadMemStats(&ahead)
	Read(sealed)
	runtime.ReadMemStats(&behind)
	if took := behind.TotalAlloc - ahead.TotalAlloc; took > 20<<20 {
		t.Error("too much memory:", took)
	}
}

// What is handed in is neither changed nor kept, and an answer is new memory, its spare room too.
func TestMemory(t *testing.T) {
	row := append(example(), file("spare"))
	kept := slices.Clone(row)
	l := row[:len(row)-1]
	b, _ := Bytes(l)
	want := bytes.Clone(b)
	for range 2 {
		again, _ := Bytes(l)
		clear(again[:cap(again)])
		got, err := Read(b)
		if err != api.OK || !Same(got, l) {
			t.Error(got, int(err))
		}
		clear(got[:cap(got)])
		for _, top := range []string{"", "a"} {
			below := Below(l, top)
			clear(below[:cap(below)])
		}
		sorted := Sort(l)
		clear(sorted[:cap(sorted)])
		Check(l)
		Find(l, "a")
		Same(l, row)
	}
	if !slices.Equal(row, kept) || !bytes.Equal(b, want) {
		t.Error("what was handed in was changed, or is shared")
	}
	got, _ := Read(b)
	clear(b)
	if !Same(got, l) {
		t.Error("what was read is kept")
	}
}
