package delta

import (
	"bytes"
	"encoding/binary"
	"hash/crc32"
	"math"
	"slices"
	"testing"

	"remora/api"
)

// tell, copyOf: an op of each kind.
func tell(s string) api.Op          { return api.Op{Data: []byte(s)} }
func copyOf(off, length int) api.Op { return api.Op{Off: off, Len: length} }

// ops: a list of ops.
func ops(l ...api.Op) []api.Op { return l }

// many: the same op so often.
func many(n int, op api.Op) []api.Op { return slices.Repeat(ops(op), n) }

// like: are two lists of ops the same, field by field?
func like(a, b []api.Op) bool {
	if len(a) != len(b) {
		return false
	}
	for i := range a {
		if a[i].Off != b[i].Off || a[i].Len != b[i].Len || string(a[i].Data) != string(b[i].Data) {
			return false
		}
	}
	return true
}

// deep: l in new memory.
func deep(l []api.Op) []api.Op {
	out := slices.Clone(l)
	for i := range out {
		out[i].Data = bytes.Clone(out[i].Data)
	}
	return out
}

// seal: parts with their sum behind them, as the document's words have it.
func seal(parts ...[]byte) []byte {
	body := bytes.Join(parts, nil)
	return binary.LittleEndian.AppendUint32(body, crc32.ChecksumIEEE(body))
}

// number: n as bytes.
func number(n int) []byte { return binary.AppendUvarint(nil, uint64(n)) }

// dice: numbers that look like chance.
type dice uint32

func (d *dice) below(n int) int {
	*d = *d*1664525 + 1013904223
	return int(*d>>8) % n
}

// text: so many bytes, of few kinds.
func (d *dice) text(n int) []byte {
	out := make([]byte, n)
	for i := range out {
		out[i] = "abcd"[d.below(4)]
	}
	return out
}

// right: up to most ops that may be over base bytes (above 0); often one goes on behind the other.
func (d *dice) right(most, base int) []api.Op {
	var out []api.Op
	at := 0
	for range d.below(most + 1) {
		if d.below(3) == 0 {
			out = append(out, api.Op{Data: d.text(1 + d.below(5))})
			continue
		}
		if d.below(2) == 0 || at == base {
			at = d.below(base)
		}
		n := 1 + d.below(min(base-at, 9))
		out = append(out, copyOf(at, n))
		at += n
	}
	return out
}

// any: an op of which anything may be wrong.
func (d *dice) any() api.Op {
	edges := []int{0, 0, 1, 2, 3, 5, -1, -3, math.MinInt, math.MinInt + 1, math.MaxInt, math.MaxInt - 1, api.MaxBasis, api.MaxBasis - 1, api.MaxBasis + 1}
	op := copyOf(edges[d.below(len(edges))], edges[d.below(len(edges))])
	switch d.below(4) {
	case 0:
		op.Data = d.text(1 + d.below(3))
	case 1:
		op.Data = []byte{}
	}
	return op
}

// makes: the bytes that ops make of a basis, of which nothing is wrong.
func makes(base []byte, l []api.Op) []byte {
	var out []byte
	for _, op := range l {
		for i := range op.Len {
			out = append(out, base[op.Off+i])
		}
		out = append(out, op.Data...)
	}
	return out
}

// P8.1: what may be.
func TestCheckTakes(t *testing.T) {
	rows := []struct {
		name string
		l    []api.Op
		base int
	}{
		{"nothing", nil, 0},
		{"no ops", ops(), api.MaxBasis},
		{"a told one over nothing", ops(tell("x")), 0},
		{"a copy of all", ops(copyOf(0, 6)), 6},
		{"a copy of the last byte", ops(copyOf(5, 1)), 6},
		{"a copy up to the greatest basis' end", ops(copyOf(api.MaxBasis-1, 1)), api.MaxBasis},
		{"a copy with no Data", ops(api.Op{Off: 1, Len: 2, Data: []byte{}}), 3},
		{"as many ops as may be", many(api.MaxOps, copyOf(0, 8)), 8},
		{"as many told bytes as may be", ops(api.Op{Data: make([]byte, api.MaxFile)}), 0},
		{"as many copied bytes as may be", ops(copyOf(api.MaxFile, api.MaxFile)), api.MaxBasis},
		{"as many bytes as may be", ops(copyOf(0, api.MaxFile-1), tell("x")), api.MaxBasis},
	}
	for _, r := range rows {
		if err := Check(r.l, r.base); err != api.OK {
			t.Errorf("Check, %s: %d", r.name, err)
		}
	}
}

// refused: ops that may not be, and the error that Check has of each over base bytes.
func refused() map[string]struct {
	l    []api.Op
	base int
	want api.Errno
} {
	type row = struct {
		l    []api.Op
		base int
		want api.Errno
	}
	return map[string]row{
		"a told one with Off":                   {ops(api.Op{Off: 1, Data: []byte("x")}), 9, api.ErrArg},
		"a told one with Len":                   {ops(api.Op{Len: 1, Data: []byte("x")}), 9, api.ErrArg},
		"a told one with Len below 0":           {ops(api.Op{Len: -1, Data: []byte("x")}), 9, api.ErrArg},
		"a told one with Off below 0":           {ops(api.Op{Off: -1, Data: []byte("x")}), 9, api.ErrArg},
		"an op of nothing":                      {ops(api.Op{}), 9, api.ErrArg},
		"a copy of no bytes, with no Data":      {ops(api.Op{Data: []byte{}}), 9, api.ErrArg},
		"a copy of no bytes past the end":       {ops(copyOf(10, 0)), 9, api.ErrArg},
		"a copy of fewer bytes than none":       {ops(copyOf(3, -1)), 9, api.ErrArg},
		"a copy of far fewer bytes than none":   {ops(copyOf(3, math.MinInt)), 9, api.ErrArg},
		"a copy from below 0":                   {ops(copyOf(-1, 2)), 9, api.ErrArg},
		"a copy from far below 0":               {ops(copyOf(math.MinInt, math.MaxInt)), 9, api.ErrArg},
		"a copy that ends a byte too late":      {ops(copyOf(8, 2)), 9, api.ErrRange},
		"a copy that begins at the end":         {ops(copyOf(9, 1)), 9, api.ErrRange},
		"a copy of a byte of nothing":           {ops(copyOf(0, 1)), 0, api.ErrRange},
		"a very long copy":                      {ops(copyOf(0, math.MaxInt)), 9, api.ErrRange},
		"a copy whose end goes round":           {ops(copyOf(math.MaxInt, 1)), 9, api.ErrRange},
		"a very long copy whose end goes round": {ops(copyOf(math.MaxInt, math.MaxInt)), api.MaxBasis, api.ErrRange},
		"a copy whose end goes round to 0":      {ops(copyOf(math.MaxInt, math.MaxInt), tell("x")), 9, api.ErrRange},
		"a copy too late for every basis":       {ops(copyOf(api.MaxBasis, 1)), api.MaxBasis, api.ErrRange},
		"too far ahead of a wrong form":         {ops(copyOf(0, 10), api.Op{}), 9, api.ErrRange},
		"a wrong form ahead of too far":         {ops(api.Op{}, copyOf(0, 10)), 9, api.ErrArg},
		"the last one wrong":                    {ops(tell("x"), copyOf(0, 9), copyOf(0, 0)), 9, api.ErrArg},
		"too many, and a wrong form":            {append(many(api.MaxOps, tell("x")), api.Op{}), 9, api.ErrArg},
		"too long, and too far":                 {ops(copyOf(0, api.MaxFile), tell("x"), copyOf(api.MaxFile, 1)), api.MaxFile, api.ErrRange},
		"too many":                              {many(api.MaxOps+1, tell("x")), 9, api.ErrBig},
		"a told byte too many":                  {ops(api.Op{Data: make([]byte, api.MaxFile+1)}), 9, api.ErrBig},
		"a copied byte too many":                {ops(copyOf(0, api.MaxFile+1)), api.MaxBasis, api.ErrBig},
		"a byte too many of both kinds":         {ops(copyOf(0, api.MaxFile), tell("x")), api.MaxFile, api.ErrBig},
		"a byte too many of many":               {append(many(api.MaxOps-1, copyOf(0, 8)), tell("123456789")), 9, api.ErrBig},
	}
}

// P8.1: what may not be, in the order of the errors.
func TestCheckRefuses(t *testing.T) {
	for name, r := range refused() {
		if err := Check(r.l, r.base); err != r.want {
			t.Errorf("Check, %s: %d, want %d", name, err, r.want)
		}
		for _, base := range []int{-1, math.MinInt, api.MaxBasis + 1, math.MaxInt} {
			if err := Check(r.l, base); err != api.ErrArg {
				t.Errorf("Check, %s, base %d: %d", name, base, err)
			}
			if err := Check(nil, base); err != api.ErrArg {
				t.Errorf("Check of no ops, base %d: %d", base, err)
			}
		}
	}
}

// P8.2: Apply has Check's errors, over as many bytes as the basis has.
func TestApplyRefuses(t *testing.T) {
	for name, r := range refused() {
		if b, err := Apply(make([]byte, r.base), r.l); b != nil || err != r.want {
			t.Errorf("Apply, %s: %d bytes, %d, want %d", name, len(b), err, r.want)
		}
	}
	if b, err := Apply(make([]byte, api.MaxBasis+1), nil); b != nil || err != api.ErrArg {
		t.Errorf("Apply to a basis that is too long: %v, %d", b, err)
	}
	if b, err := Apply(make([]byte, 9, 100), ops(copyOf(9, 1))); b != nil || err != api.ErrRange {
		t.Errorf("Apply to the basis' spare room: %v, %d", b, err)
	}
}

// everywhere: those of refused whose error is that of Check with MaxBasis, too.
func everywhere(t *testing.T, try func(name string, l []api.Op, want api.Errno)) {
	tried := 0
	for name, r := range refused() {
		if Check(r.l, api.MaxBasis) == r.want {
			try(name, r.l, r.want)
			tried++
		}
	}
	if tried < 20 {
		t.Errorf("only %d tried", tried)
	}
}

// P8.1: of any ops, and sums go round.
func TestSizeAndCost(t *testing.T) {
	rows := []struct {
		name         string
		l            []api.Op
		told, copied int
	}{
		{"nothing", nil, 0, 0},
		{"told ones", ops(tell("ab"), tell("c")), 3, 0},
		{"copies", ops(copyOf(5, 3), copyOf(0, 4)), 0, 7},
		{"both", ops(tell("ab"), copyOf(5, 3), tell("c")), 3, 3},
		{"a told one with Off and Len", ops(api.Op{Off: 5, Len: 7, Data: []byte("ab")}), 2, 0},
		{"a told one with Len below 0", ops(api.Op{Off: -5, Len: -7, Data: []byte("ab")}), 2, 0},
		{"no bytes", ops(api.Op{}, copyOf(7, 0), api.Op{Data: []byte{}}), 0, 0},
		{"copies with Len below 0", ops(copyOf(1, -1), copyOf(2, math.MinInt), copyOf(0, 2)), 0, 2},
		{"copies from below 0", ops(copyOf(-9, 4)), 0, 4},
		{"the greatest", ops(copyOf(0, math.MaxInt)), 0, math.MaxInt},
		{"one beyond the greatest", ops(copyOf(0, math.MaxInt), copyOf(0, 1)), 0, math.MinInt},
		{"twice the greatest", ops(copyOf(0, math.MaxInt), tell("x"), copyOf(3, math.MaxInt)), 1, -2},
		{"more than may be", many(api.MaxOps+1, copyOf(0, api.MaxFile)), 0, (api.MaxOps + 1) * api.MaxFile},
	}
	for _, r := range rows {
		if a, b := Cost(r.l); a != r.told || b != r.copied {
			t.Errorf("Cost, %s: %d, %d, want %d, %d", r.name, a, b, r.told, r.copied)
		}
		if got := Size(r.l); got != r.told+r.copied {
			t.Errorf("Size, %s: %d, want %d", r.name, got, r.told+r.copied)
		}
	}
	if got := Size(ops(copyOf(0, math.MaxInt), tell("x"))); got != math.MinInt {
		t.Errorf("Size that goes round by a told byte: %d", got)
	}
}

// P8.2.
func TestApply(t *testing.T) {
	d := dice(1)
	for range 2000 {
		base := d.text(1 + d.below(30))
		l := d.right(12, len(base))
		got, err := Apply(base, l)
		if err != api.OK || !bytes.Equal(got, makes(base, l)) || len(got) != Size(l) {
			t.Fatalf("Apply(%q, %v) = %q, %d", base, l, got, err)
		}
	}
	if got, err := Apply(nil, ops(tell("x"), tell("yz"))); err != api.OK || string(got) != "xyz" {
		t.Errorf("Apply to nothing: %q, %d", got, err)
	}
	if got, err := Apply([]byte("abc"), nil); err != api.OK || len(got) != 0 {
		t.Errorf("Apply of nothing: %q, %d", got, err)
	}
	great := d.text(api.MaxBasis)
	if got, err := Apply(great, ops(copyOf(api.MaxFile, api.MaxFile))); err != api.OK || !bytes.Equal(got, great[api.MaxFile:]) {
		t.Errorf("Apply to the greatest basis: %d bytes, %d", len(got), err)
	}
}

// P8.3: Norm, with each part of what it is to go on.
func TestNorm(t *testing.T) {
	const most = api.MaxBasis
	rows := []struct {
		name    string
		l, want []api.Op
	}{
		{"nothing", nil, nil},
		{"one of each kind", ops(tell("a"), copyOf(0, 3)), ops(tell("a"), copyOf(0, 3))},
		{"told ones", ops(tell("a"), tell("bc"), tell("d")), ops(tell("abcd"))},
		{"told ones with Off and Len", ops(api.Op{Off: 3, Len: 4, Data: []byte("a")}, api.Op{Off: -1, Len: -1, Data: []byte("b")}), ops(tell("ab"))},
		{"one told one with Off and Len", ops(api.Op{Off: 3, Len: 4, Data: []byte("a")}), ops(tell("a"))},
		{"copies, each behind the other", ops(copyOf(1, 2), copyOf(3, 1), copyOf(4, 5)), ops(copyOf(1, 8))},
		{"copies with a gap", ops(copyOf(1, 2), copyOf(4, 1)), ops(copyOf(1, 2), copyOf(4, 1))},
		{"copies that overlap", ops(copyOf(1, 2), copyOf(2, 2)), ops(copyOf(1, 2), copyOf(2, 2))},
		{"copies in the wrong order", ops(copyOf(3, 2), copyOf(1, 2)), ops(copyOf(3, 2), copyOf(1, 2))},
		{"copies with a told one between", ops(copyOf(1, 2), tell("x"), copyOf(3, 1)), ops(copyOf(1, 2), tell("x"), copyOf(3, 1))},
		{"told ones with a copy between", ops(tell("x"), copyOf(0, 1), tell("y")), ops(tell("x"), copyOf(0, 1), tell("y"))},
		{"no bytes between copies", ops(copyOf(1, 2), copyOf(7, 0), api.Op{Data: []byte{}}, copyOf(9, -5), copyOf(3, 1)), ops(copyOf(1, 3))},
		{"no bytes between told ones", ops(api.Op{}, tell("x"), copyOf(0, math.MinInt), tell("y"), api.Op{}), ops(tell("xy"))},
		{"no bytes at all", ops(api.Op{}, copyOf(-3, -3), copyOf(9, 0)), nil},
		{"copies with no Data", ops(api.Op{Off: 1, Len: 2, Data: []byte{}}, copyOf(3, 1)), ops(copyOf(1, 3))},
		{"from below 0", ops(copyOf(-2, 2), copyOf(0, 2)), ops(copyOf(-2, 2), copyOf(0, 2))},
		{"from 0", ops(copyOf(0, 1), copyOf(1, 1)), ops(copyOf(0, 2))},
		{"up to the most", ops(copyOf(most-1, 1), copyOf(most, 5)), ops(copyOf(most-1, 6))},
		{"past the most", ops(copyOf(most, 1), copyOf(most+1, 5)), ops(copyOf(most, 1), copyOf(most+1, 5))},
		{"past the most, as it has become", ops(copyOf(most-2, 2), copyOf(most, 1), copyOf(most+1, 1)), ops(copyOf(most-2, 3), copyOf(most+1, 1))},
		{"as long as may be", ops(copyOf(0, most), copyOf(most, most)), ops(copyOf(0, 2*most))},
		{"the one ahead too long", ops(copyOf(0, most+1), copyOf(most+1, 1)), ops(copyOf(0, most+1), copyOf(most+1, 1))},
		{"this one too long", ops(copyOf(0, 1), copyOf(1, most+1)), ops(copyOf(0, 1), copyOf(1, most+1))},
		{"the greatest", ops(copyOf(0, math.MaxInt), copyOf(math.MaxInt, 1)), ops(copyOf(0, math.MaxInt), copyOf(math.MaxInt, 1))},
		{"this one the greatest", ops(copyOf(0, 1), copyOf(1, math.MaxInt)), ops(copyOf(0, 1), copyOf(1, math.MaxInt))},
		{"a sum that goes round", ops(copyOf(math.MaxInt, 1), copyOf(math.MinInt, 2)), ops(copyOf(math.MaxInt, 3))},
	}
	for _, r := range rows {
		if got := Norm(r.l); !like(got, r.want) {
			t.Errorf("Norm, %s: %v, want %v", r.name, got, r.want)
		}
	}
}

// P8.8: what Norm is of ops that may be, and of any ones.
func TestNormFollows(t *testing.T) {
	d := dice(2)
	for range 3000 {
		base := d.text(1 + d.below(20))
		l := d.right(12, len(base))
		got := Norm(l)
		if Check(got, len(base)) != api.OK || !bytes.Equal(makes(base, got), makes(base, l)) {
			t.Fatalf("Norm(%v) = %v", l, got)
		}
		for i := 1; i < len(got); i++ {
			if told(got[i-1]) && told(got[i]) || !told(got[i-1]) && !told(got[i]) && got[i-1].Off+got[i-1].Len == got[i].Off {
				t.Fatalf("Norm(%v) = %v: the op %d goes on", l, got, i)
			}
		}
		for range d.below(6) {
			l = append(l, d.any())
		}
		got = Norm(l)
		a, b := Cost(l)
		if x, y := Cost(got); x != a || y != b || !like(Norm(got), got) {
			t.Fatalf("Norm(%v) = %v, and of that %v", l, got, Norm(got))
		}
	}
}

// P8.3: Whole.
func TestWhole(t *testing.T) {
	for _, n := range []int{1, 2, 100, api.MaxFile, api.MaxFile + 1, api.MaxBasis + 1} {
		b := bytes.Repeat([]byte{7}, n)
		if got := Whole(b); !like(got, ops(api.Op{Data: b})) {
			t.Errorf("Whole of %d bytes: %d ops", n, len(got))
		}
	}
	if len(Whole(nil)) != 0 || len(Whole([]byte{})) != 0 {
		t.Errorf("Whole of nothing: %v, %v", Whole(nil), Whole([]byte{}))
	}
}

// P8.3: Same.
func TestSame(t *testing.T) {
	l := ops(copyOf(1, 2), tell("ab"), api.Op{Off: -1, Len: -2, Data: []byte("c")})
	others := map[string][]api.Op{
		"nothing":           nil,
		"one fewer":         l[:2],
		"one more":          append(deep(l), api.Op{}),
		"an Off":            ops(copyOf(2, 2), l[1], l[2]),
		"a Len":             ops(copyOf(1, 3), l[1], l[2]),
		"a byte":            ops(l[0], tell("aB"), l[2]),
		"a byte fewer":      ops(l[0], tell("a"), l[2]),
		"Data of a copy":    ops(api.Op{Off: 1, Len: 2, Data: []byte{0}}, l[1], l[2]),
		"a told one's Off":  ops(l[0], l[1], api.Op{Len: -2, Data: []byte("c")}),
		"a told one's Len":  ops(l[0], l[1], api.Op{Off: -1, Data: []byte("c")}),
		"the order":         ops(l[1], l[0], l[2]),
		"ops put otherwise": ops(l[0], tell("a"), tell("b"), l[2]),
	}
	if !Same(l, deep(l)) || !Same(nil, ops()) {
		t.Error("what is the same is not")
	}
	if !Same(ops(copyOf(1, 2)), ops(api.Op{Off: 1, Len: 2, Data: []byte{}})) {
		t.Error("no Data is not like nil")
	}
	for name, other := range others {
		if Same(l, other) || Same(other, l) || !Same(other, deep(other)) {
			t.Errorf("the same in spite of: %s", name)
		}
	}
}

// plainPart: a stretch of what ops make, op by op and byte by byte.
func plainPart(l []api.Op, from, to int) []api.Op {
	var out []api.Op
	at := 0
	for _, op := range l {
		var piece api.Op
		for i := range max(len(op.Data), op.Len) {
			switch {
			case at < from || at >= to:
			case len(op.Data) > 0:
				piece.Data = append(piece.Data, op.Data[i])
			case piece.Len == 0:
				piece = copyOf(op.Off+i, 1)
			default:
				piece.Len++
			}
			at++
		}
		if piece.Len > 0 || len(piece.Data) > 0 {
			out = append(out, piece)
		}
	}
	return out
}

// P8.4 and P8.9: every stretch.
func TestPart(t *testing.T) {
	d := dice(3)
	for range 300 {
		base := d.text(1 + d.below(20))
		l := d.right(8, len(base))
		text := makes(base, l)
		for from := range len(text) + 1 {
			for to := from; to <= len(text); to++ {
				got, err := Part(l, from, to)
				if err != api.OK || !like(got, plainPart(l, from, to)) {
					t.Fatalf("Part(%v, %d, %d) = %v, %d", l, from, to, got, err)
				}
				if !bytes.Equal(makes(base, got), text[from:to]) {
					t.Fatalf("Part(%v, %d, %d) = %v makes something else", l, from, to, got)
				}
			}
		}
	}
	l := ops(copyOf(10, 2), copyOf(12, 2), tell("ab"), tell("cd"))
	if got, err := Part(l, 1, 7); err != api.OK || !like(got, ops(copyOf(11, 1), copyOf(12, 2), tell("ab"), tell("c"))) {
		t.Errorf("Part of what goes on: %v, %d", got, err)
	}
}

// P8.4: what Part refuses.
func TestPartRefuses(t *testing.T) {
	l := ops(copyOf(1, 2), tell("abc"))
	for _, r := range [][2]int{{-1, 3}, {-1, -1}, {3, 2}, {0, 6}, {6, 6}, {5, 6}, {6, 5}, {math.MinInt, math.MaxInt}, {math.MaxInt, math.MaxInt}, {math.MaxInt, math.MinInt}, {0, -1}, {0, math.MaxInt}} {
		if got, err := Part(l, r[0], r[1]); got != nil || err != api.ErrRange {
			t.Errorf("Part from %d to %d: %v, %d", r[0], r[1], got, err)
		}
	}
	for _, at := range []int{0, 2, 3, 5} {
		if got, err := Part(l, at, at); len(got) != 0 || err != api.OK {
			t.Errorf("Part from %d to %d: %v, %d", at, at, got, err)
		}
	}
	if got, err := Part(nil, 0, 1); got != nil || err != api.ErrRange {
		t.Errorf("Part of nothing: %v, %d", got, err)
	}
	everywhere(t, func(name string, l []api.Op, want api.Errno) {
		for _, r := range [][2]int{{0, 0}, {-1, 5}, {0, math.MaxInt}} {
			if got, err := Part(l, r[0], r[1]); got != nil || err != want {
				t.Errorf("Part, %s: %d ops, %d, want %d", name, len(got), err, want)
			}
		}
	})
}

// P8.5 and P8.10.
func TestThen(t *testing.T) {
	d := dice(4)
	for range 3000 {
		base := d.text(1 + d.below(20))
		a := d.right(10, len(base))
		middle := makes(base, a)
		b := ops(tell("q"))
		if len(middle) > 0 {
			b = d.right(10, len(middle))
		}
		got, err := Then(a, b)
		if err != api.OK || !bytes.Equal(makes(base, got), makes(middle, b)) {
			t.Fatalf("Then(%v, %v) = %v, %d", a, b, got, err)
		}
		var parts []api.Op
		for _, op := range b {
			if told(op) {
				parts = append(parts, op)
			} else {
				parts = append(parts, plainPart(a, op.Off, op.Off+op.Len)...)
			}
		}
		if !like(got, Norm(parts)) {
			t.Fatalf("Then(%v, %v) = %v, want %v", a, b, got, Norm(parts))
		}
	}
	if got, err := Then(ops(copyOf(4, 2), copyOf(6, 2)), ops(copyOf(1, 3))); err != api.OK || !like(got, ops(copyOf(5, 3))) {
		t.Errorf("Then of what goes on: %v, %d", got, err)
	}
	if got, err := Then(nil, nil); err != api.OK || len(got) != 0 {
		t.Errorf("Then of nothing: %v, %d", got, err)
	}
}

// P8.5: what Then refuses, of a ahead of b.
func TestThenRefuses(t *testing.T) {
	wrong := ops(api.Op{})
	everywhere(t, func(name string, l []api.Op, want api.Errno) {
		for _, b := range [][]api.Op{nil, ops(tell("x")), wrong, ops(copyOf(0, api.MaxBasis))} {
			if got, err := Then(l, b); got != nil || err != want {
				t.Errorf("Then, first one with %s: %d ops, %d, want %d", name, len(got), err, want)
			}
		}
	})
	for name, r := range refused() {
		if r.base > api.MaxFile {
			continue
		}
		a := ops(copyOf(0, r.base))
		if r.base == 0 {
			a = nil
		}
		if got, err := Then(a, r.l); got != nil || err != r.want {
			t.Errorf("Then, second one with %s: %d ops, %d, want %d", name, len(got), err, r.want)
		}
	}
	if got, err := Then(ops(tell("abc")), ops(copyOf(2, 2))); got != nil || err != api.ErrRange {
		t.Errorf("Then past what the first one makes: %v, %d", got, err)
	}
}

// apart: so many copies of a byte, none of which goes on behind another one.
func apart(n int) []api.Op {
	var out []api.Op
	for i := range n {
		out = append(out, copyOf(2*i, 1))
	}
	return out
}

// P8.5: as many ops as may be come out, and no more, counted as they are put together.
func TestThenOfManyOps(t *testing.T) {
	a := apart(api.MaxOps)
	if got, err := Then(a, ops(copyOf(0, api.MaxOps))); err != api.OK || !like(got, a) {
		t.Errorf("Then of as many as may be: %d ops, %d", len(got), err)
	}
	if got, err := Then(a, ops(copyOf(0, api.MaxOps), tell("x"))); got != nil || err != api.ErrBig {
		t.Errorf("Then of one more: %d ops, %d", len(got), err)
	}
	if got, err := Then(a, many(8, copyOf(0, api.MaxOps))); got != nil || err != api.ErrBig {
		t.Errorf("Then of far more: %d ops, %d", len(got), err)
	}
	told := many(api.MaxOps, tell("12345678"))
	if got, err := Then(told, many(8, copyOf(0, api.MaxOps))); err != api.OK || len(got) != 1 || len(got[0].Data) != api.MaxFile {
		t.Errorf("Then of told ones: %d ops, %d", len(got), err)
	}
	if got, err := Then(told, many(api.MaxOps, copyOf(api.MaxFile-8, 8))); err != api.OK || len(got) != 1 {
		t.Errorf("Then of many copies: %d ops, %d", len(got), err)
	}
}

// plainBytes: ops that may be, as bytes, as the document's words have it.
func plainBytes(l []api.Op) []byte {
	body := number(len(l))
	for _, op := range l {
		if len(op.Data) > 0 {
			body = append(append(body, number(2*len(op.Data)+1)...), op.Data...)
		} else {
			body = append(append(body, number(2*op.Len)...), number(op.Off)...)
		}
	}
	return seal(body)
}

// mayBe: ops that may be laid as bytes.
func mayBe() map[string][]api.Op {
	d := dice(5)
	out := map[string][]api.Op{
		"nothing":             nil,
		"a told byte":         ops(tell("x")),
		"a copied byte":       ops(copyOf(0, 1)),
		"the last byte":       ops(copyOf(api.MaxBasis-1, 1)),
		"all bytes told":      ops(api.Op{Data: d.text(api.MaxFile)}),
		"all bytes copied":    ops(copyOf(api.MaxFile, api.MaxFile)),
		"as many ops as may":  many(api.MaxOps, copyOf(300, 8)),
		"as many told ones":   many(api.MaxOps, tell("12345678")),
		"lengths of 63 to 65": ops(copyOf(127, 63), copyOf(128, 64), api.Op{Data: d.text(63)}, api.Op{Data: d.text(64)}, copyOf(16384, 65)),
		"what is not Norm":    ops(copyOf(1, 2), copyOf(3, 1), tell("a"), tell("b")),
		"a copy with no Data": ops(api.Op{Off: 1, Len: 2, Data: []byte{}}),
	}
	for i := range 200 {
		out["some "+string(rune('A'+i))] = d.right(20, 1+d.below(300))
	}
	return out
}

// P8.6, and P8.11: there and back.
func TestBytes(t *testing.T) {
	for name, l := range mayBe() {
		b, err := Bytes(l)
		if err != api.OK || !bytes.Equal(b, plainBytes(l)) {
			t.Errorf("Bytes, %s: not as they are to be, %d", name, err)
		}
		if got, err := Read(b); err != api.OK || !like(got, l) {
			t.Errorf("Read, %s: not as it was, %d", name, err)
		}
	}
	everywhere(t, func(name string, l []api.Op, want api.Errno) {
		if b, err := Bytes(l); b != nil || err != want {
			t.Errorf("Bytes, %s: %d bytes, %d, want %d", name, len(b), err, want)
		}
	})
	want := seal([]byte{3, 6, 172, 2, 5, 'x', 'y', 2, 0})
	if b, err := Bytes(ops(copyOf(300, 3), tell("xy"), copyOf(0, 1))); err != api.OK || !bytes.Equal(b, want) {
		t.Errorf("Bytes: %v, %d, want %v", b, err, want)
	}
}

// P8.7: what Read refuses, from the left.
func TestReadRefuses(t *testing.T) {
	high := bytes.Repeat([]byte{128}, 9)
	great := append(bytes.Repeat([]byte{255}, 8), 64)
	file, basis := api.MaxFile, api.MaxBasis
	rows := []struct {
		name string
		b    []byte
		want api.Errno
	}{
		{"nothing", nil, api.ErrEnd},
		{"three bytes", []byte{0, 0, 0}, api.ErrEnd},
		{"a wrong sum", []byte{0, 0, 0, 1}, api.ErrSum},
		{"a wrong sum of what is wrong too", []byte{128, 0, 1, 2, 3, 4}, api.ErrSum},
		{"no number of ops", seal(), api.ErrEnd},
		{"a number of ops that ends too early", seal([]byte{128}), api.ErrEnd},
		{"a number of ops that is too long", seal([]byte{128, 0}), api.ErrForm},
		{"a number of ops of nine high bytes", seal(high), api.ErrForm},
		{"a number of ops that is too great", seal(great), api.ErrBig},
		{"an op too many", seal(number(api.MaxOps+1), bytes.Repeat([]byte{3, 'x'}, api.MaxOps+1)), api.ErrBig},
		{"an op too many, and none there", seal(number(api.MaxOps + 1)), api.ErrBig},
		{"very many ops", seal(number(api.MaxNum)), api.ErrBig},
		{"no ops where there is to be one", seal([]byte{1}), api.ErrEnd},
		{"an op too few", seal([]byte{2, 3, 'x'}), api.ErrEnd},
		{"as many ops as may be, and none there", seal(number(api.MaxOps)), api.ErrEnd},
		{"a length that ends too early", seal([]byte{1, 130}), api.ErrEnd},
		{"a length that is too long", seal([]byte{1, 130, 0}), api.ErrForm},
		{"a length of nine high bytes", seal([]byte{1}, high), api.ErrForm},
		{"a length that is too great", seal([]byte{1}, great), api.ErrBig},
		{"a copy of no bytes", seal([]byte{1, 0, 0}), api.ErrForm},
		{"a copy of no bytes, with no Off", seal([]byte{1, 0}), api.ErrForm},
		{"a told one of no bytes", seal([]byte{1, 1}), api.ErrForm},
		{"a copy that is too long", seal([]byte{1}, number(2*(file+1)), []byte{0}), api.ErrBig},
		{"a copy that is too long, with no Off", seal([]byte{1}, number(2*(file+1))), api.ErrBig},
		{"a told one that is too long", seal([]byte{1}, number(2*(file+1)+1), make([]byte, file+1)), api.ErrBig},
		{"a told one that is too long, and not there", seal([]byte{1}, number(2*(file+1)+1)), api.ErrBig},
		{"a very long told one", seal([]byte{1}, number(api.MaxNum)), api.ErrBig},
		{"a very long copy", seal([]byte{1}, number(api.MaxNum-1), []byte{0}), api.ErrBig},
		{"a told one that ends too early", seal([]byte{1, 7, 'a', 'b'}), api.ErrEnd},
		{"a told one of which nothing is there", seal([]byte{1, 3}), api.ErrEnd},
		{"a long told one of which nothing is there", seal([]byte{1}, number(2*file+1)), api.ErrEnd},
		{"no Off", seal([]byte{1, 2}), api.ErrEnd},
		{"an Off that ends too early", seal([]byte{1, 2, 128}), api.ErrEnd},
		{"an Off that is too long", seal([]byte{1, 2, 128, 0}), api.ErrForm},
		{"an Off that is too great", seal([]byte{1, 2}, great), api.ErrBig},
		{"a byte behind all", seal([]byte{1, 3, 'x', 0}), api.ErrForm},
		{"a byte behind nothing", seal([]byte{0, 0}), api.ErrForm},
		{"an op behind all", seal([]byte{1, 3, 'x', 3, 'y'}), api.ErrForm},
		{"a copy too far, and a byte behind all", seal([]byte{1, 2}, number(basis), []byte{0}), api.ErrForm},
		{"a copy too far, and an op of no bytes", seal([]byte{2, 2}, number(basis), []byte{1}), api.ErrForm},
		{"a copy too far", seal([]byte{1, 2}, number(basis)), api.ErrRange},
		{"a copy whose end is too far", seal([]byte{1, 4}, number(basis-1)), api.ErrRange},
		{"a copy very far off", seal([]byte{1, 2}, number(api.MaxNum)), api.ErrRange},
		{"too many bytes, and too far", seal([]byte{2}, number(2*file), []byte{0, 2}, number(basis)), api.ErrRange},
		{"too many bytes together", seal([]byte{2}, number(2*file), []byte{0, 3, 'x'}), api.ErrBig},
		{"too many bytes of copies together", seal([]byte{2}, number(2*file), []byte{0, 2, 0}), api.ErrBig},
	}
	for _, r := range rows {
		if l, err := Read(r.b); l != nil || err != r.want {
			t.Errorf("Read, %s: %d ops, %d, want %d", r.name, len(l), err, r.want)
		}
	}
}

// P8.7: each length that is cut off, and each byte that is changed, is told.
func TestReadOfWhatIsBroken(t *testing.T) {
	whole := plainBytes(ops(copyOf(300, 3), tell("xyz"), copyOf(0, 100)))
	for n := range whole {
		if l, err := Read(whole[:n]); l != nil || err != api.ErrEnd && err != api.ErrSum {
			t.Errorf("the first %d bytes: %d", n, err)
		}
		changed := bytes.Clone(whole)
		changed[n] ^= 4
		if l, err := Read(changed); l != nil || err != api.ErrSum {
			t.Errorf("the byte %d changed: %d", n, err)
		}
	}
}

// P8.7: whatever is read, of bytes that look like chance, may be, and is put as these bytes.
func TestBackAndThere(t *testing.T) {
	d, read := dice(6), 0
	for range 20000 {
		body := []byte{byte(1 + d.below(3))}
		for range 2 + d.below(10) {
			body = append(body, byte(d.below(9)))
		}
		b := seal(body)
		l, err := Read(b)
		if err != api.OK {
			continue
		}
		read++
		if again, err := Bytes(l); err != api.OK || !bytes.Equal(again, b) {
			t.Fatalf("%v: what was read is put otherwise, %d", body, err)
		}
	}
	if read < 100 {
		t.Errorf("only %d were read", read)
	}
}

// The chapter's examples.
func TestExamples(t *testing.T) {
	if b, err := Apply([]byte("abcdef"), ops(copyOf(1, 2), tell("x"), copyOf(3, 3))); err != api.OK || string(b) != "bcxdef" {
		t.Errorf("Apply: %q, %d", b, err)
	}
	if l := Norm(ops(copyOf(1, 2), copyOf(3, 1))); !like(l, ops(copyOf(1, 3))) {
		t.Errorf("Norm: %v", l)
	}
	if b, err := Bytes(nil); err != api.OK || !bytes.Equal(b, seal([]byte{0})) {
		t.Errorf("Bytes of no ops: %v, %d", b, err)
	}
}

// roomy: ops whose lists have spare room, and a function that tells whether all is as it was.
func roomy() ([]api.Op, func() bool) {
	text := []byte("abcdefgh........")
	l := append(make([]api.Op, 0, 9), api.Op{Data: text[:2]}, api.Op{Data: text[2:4]}, copyOf(3, 2), api.Op{Data: text[4:8]}, copyOf(5, 2))
	was := deep(l[:cap(l)])
	return l, func() bool {
		return string(text) == "abcdefgh........" && like(l[:cap(l)], was)
	}
}

// answers: what each function that answers ops answers of l.
func answers(l []api.Op) map[string][]api.Op {
	part, _ := Part(l, 0, Size(l))
	then, _ := Then(l, ops(copyOf(0, 8), tell("z"), copyOf(0, Size(l))))
	second, _ := Then(ops(copyOf(0, 50)), l)
	b, _ := Bytes(l)
	read, _ := Read(b)
	return map[string][]api.Op{"Norm": Norm(l), "Part": part, "Then": then, "Then of two": second, "Read": read, "Whole": Whole(l[0].Data)}
}

// What is handed in is neither changed nor kept, its spare room included.
func TestNothingIsKept(t *testing.T) {
	l, asItWas := roomy()
	kept := map[string][]api.Op{}
	all := answers(l)
	for name, got := range all {
		kept[name] = deep(got)
	}
	if !asItWas() {
		t.Fatal("what was handed in was changed")
	}
	for _, op := range l {
		clear(op.Data[:cap(op.Data)])
	}
	clear(l[:cap(l)])
	for name, got := range all {
		if len(got) == 0 || !like(got, kept[name]) {
			t.Errorf("%s keeps what was handed in: %v", name, got)
		}
	}
}

// No list of an answer, spare room too, is shared with what was handed in, or with another one of the answer.
func TestAnswersAreNewMemory(t *testing.T) {
	l, asItWas := roomy()
	for name, got := range answers(l) {
		for i, op := range got {
			for j := range cap(op.Data) {
				op.Data[:cap(op.Data)][j] = byte(200 + i)
			}
		}
		for i, op := range got {
			room := op.Data[:cap(op.Data)]
			if bytes.Count(room, []byte{byte(200 + i)}) != len(room) {
				t.Errorf("%s: the op %d shares memory with another one", name, i)
			}
		}
		clear(got[:cap(got)])
		if !asItWas() {
			t.Fatalf("%s: the answer shares memory with what was handed in", name)
		}
	}
}

// Apply's and Bytes' answers are new memory, too, and Read keeps nothing of what it reads.
func TestNewBytes(t *testing.T) {
	base := []byte("abcdef")
	l := ops(copyOf(0, 6))
	got, _ := Apply(base, l)
	clear(got[:cap(got)])
	data := []byte("xyz!")
	one, _ := Apply(nil, ops(api.Op{Data: data[:3]}))
	clear(one[:cap(one)])
	if string(base) != "abcdef" || string(data) != "xyz!" {
		t.Errorf("Apply shares memory: %q, %q", base, data)
	}
	laid, _ := Bytes(ops(api.Op{Data: data[:3]}))
	read, _ := Read(laid)
	clear(laid[:cap(laid)])
	if string(data) != "xyz!" || !like(read, ops(tell("xyz"))) {
		t.Errorf("Bytes or Read shares memory: %q, %v", data, read)
	}
}
