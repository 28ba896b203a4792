package num

import (
	"bytes"
	"math"
	"strings"
	"testing"

	"remora/api"
)

// edges: numbers at both ends of every count of bytes, and some between.
func edges() []int {
	out := []int{0, 1, 2, 63, 64, 65, 126, 127, 128, 129, 255, 256, 300, 16383, 16384, 1 << 20, 123456789}
	for groups := 1; groups <= 8; groups++ {
		top := 1 << (7 * groups)
		out = append(out, top-2, top-1, top, top+1)
	}
	return append(out, 1<<61-1, 1<<61, api.MaxNum-1, api.MaxNum)
}

// plain: the bytes of n as the document's words have them, by division.
func plain(n int) []byte {
	out := []byte{byte(n % 128)}
	for n /= 128; n > 0; n /= 128 {
		out[len(out)-1] += 128
		out = append(out, byte(n%128))
	}
	return out
}

func TestPutIsTheDocumentsBytes(t *testing.T) {
	for _, n := range edges() {
		if got, want := Put(nil, n), plain(n); !bytes.Equal(got, want) {
			t.Errorf("Put(%d) = %v, want %v", n, got, want)
		}
	}
	rows := []struct {
		n    int
		want []byte
	}{
		{0, []byte{0}},
		{127, []byte{127}},
		{128, []byte{128, 1}},
		{300, []byte{172, 2}},
		{api.MaxNum, []byte{255, 255, 255, 255, 255, 255, 255, 255, 63}},
	}
	for _, r := range rows {
		if got := Put(nil, r.n); !bytes.Equal(got, r.want) {
			t.Errorf("Put(%d) = %v, want %v", r.n, got, r.want)
		}
	}
}

func TestPutBeyondTheEnds(t *testing.T) {
	for _, n := range []int{-1, -2, -300, math.MinInt} {
		if got := Put(nil, n); !bytes.Equal(got, []byte{0}) {
			t.Errorf("Put(%d) = %v, want that of 0", n, got)
		}
	}
	for _, n := range []int{api.MaxNum + 1, api.MaxNum + 300, math.MaxInt} {
		if got := Put(nil, n); !bytes.Equal(got, plain(api.MaxNum)) {
			t.Errorf("Put(%d) = %v, want that of MaxNum", n, got)
		}
	}
}

func TestPutIntIsTheDocumentsBytes(t *testing.T) {
	const least, most = -1 << 61, 1<<61 - 1
	rows := []struct{ n, unsigned int }{
		{0, 0}, {-1, 1}, {1, 2}, {-2, 3}, {2, 4}, {63, 126}, {-64, 127}, {64, 128}, {-65, 129},
		{most - 1, api.MaxNum - 3}, {most, api.MaxNum - 1}, {most + 1, api.MaxNum - 1}, {math.MaxInt, api.MaxNum - 1},
		{least + 1, api.MaxNum - 2}, {least, api.MaxNum}, {least - 1, api.MaxNum}, {math.MinInt, api.MaxNum},
	}
	for _, r := range rows {
		if got, want := PutInt(nil, r.n), plain(r.unsigned); !bytes.Equal(got, want) {
			t.Errorf("PutInt(%d) = %v, want %v", r.n, got, want)
		}
	}
}

func TestPutTextIsTheDocumentsBytes(t *testing.T) {
	for _, s := range []string{"", "a", "ab", "\x00\xff\x80", strings.Repeat("x", 127), strings.Repeat("y", 128), strings.Repeat("z", 20000)} {
		want := append(plain(len(s)), s...)
		if got := PutText(nil, s); !bytes.Equal(got, want) {
			t.Errorf("PutText of %d bytes = %v", len(s), got)
		}
	}
	if got := PutText(nil, "ab"); !bytes.Equal(got, []byte{2, 97, 98}) {
		t.Errorf("PutText(ab) = %v", got)
	}
}

// P1.1, the first half: what is put is got, whatever stands ahead and behind.
func TestWhatIsPutIsGot(t *testing.T) {
	aheads := [][]byte{nil, {0}, {128}, {255, 255, 255}, []byte("some text")}
	behinds := [][]byte{nil, {0}, {128}, {255, 255, 255, 255, 255, 255, 255, 255, 255, 255}}
	for _, ahead := range aheads {
		for _, behind := range behinds {
			for _, n := range edges() {
				number := Put(ahead, n)
				got, at, err := Get(append(number, behind...), len(ahead))
				if got != n || at != len(number) || err != api.OK {
					t.Errorf("Get of Put(%v, %d) and %v = %d, %d, %d", ahead, n, behind, got, at, err)
				}
				for _, signed := range []int{n / 2, -(n / 2), -(n / 2) - 1} {
					number := PutInt(ahead, signed)
					got, at, err := GetInt(append(number, behind...), len(ahead))
					if got != signed || at != len(number) || err != api.OK {
						t.Errorf("GetInt of PutInt(%v, %d) and %v = %d, %d, %d", ahead, signed, behind, got, at, err)
					}
				}
			}
			for _, s := range []string{"", "a", "\x80\x00", strings.Repeat("q", 300)} {
				text := PutText(ahead, s)
				got, at, err := GetText(append(text, behind...), len(ahead), len(s))
				if got != s || at != len(text) || err != api.OK {
					t.Errorf("GetText of PutText(%v, %q) and %v = %q, %d, %d", ahead, s, behind, got, at, err)
				}
			}
		}
	}
}

// P1.1, the second half: what is got is put as the same bytes.
func TestWhatIsGotIsPutAsTheSameBytes(t *testing.T) {
	state := uint32(1)
	for range 20000 {
		b := make([]byte, 11)
		for i := range b {
			state = state*1664525 + 1013904223
			b[i] = byte(state>>24) | byte(state>>16)&128
		}
		b[state>>8%10] &= 127
		if n, at, err := Get(b, 0); err == api.OK && !bytes.Equal(Put(nil, n), b[:at]) {
			t.Fatalf("Get(%v) = %d, put as %v", b, n, Put(nil, n))
		}
		if n, at, err := GetInt(b, 0); err == api.OK && !bytes.Equal(PutInt(nil, n), b[:at]) {
			t.Fatalf("GetInt(%v) = %d, put as %v", b, n, PutInt(nil, n))
		}
		if s, at, err := GetText(b, 0, 99); err == api.OK && !bytes.Equal(PutText(nil, s), b[:at]) {
			t.Fatalf("GetText(%v) = %q, put as %v", b, s, PutText(nil, s))
		}
	}
}

// P1.2.
func TestSize(t *testing.T) {
	rows := []struct{ n, want int }{
		{math.MinInt, 1}, {-1, 1}, {0, 1}, {1, 1}, {127, 1}, {128, 2}, {16383, 2}, {16384, 3},
		{1<<21 - 1, 3}, {1 << 21, 4}, {1<<28 - 1, 4}, {1 << 28, 5}, {1<<35 - 1, 5}, {1 << 35, 6},
		{1<<42 - 1, 6}, {1 << 42, 7}, {1<<49 - 1, 7}, {1 << 49, 8}, {1<<56 - 1, 8}, {1 << 56, 9},
		{api.MaxNum, 9}, {api.MaxNum + 1, 9}, {math.MaxInt, 9},
	}
	last := 1
	for _, r := range rows {
		got := Size(r.n)
		if got != r.want || got != len(Put(nil, r.n)) {
			t.Errorf("Size(%d) = %d, want %d", r.n, got, r.want)
		}
		if got < last || got > 9 {
			t.Errorf("Size(%d) = %d behind %d", r.n, got, last)
		}
		last = got
	}
}

// high: a row of so many bytes of 128, and some more behind it.
func high(many int, behind ...byte) []byte {
	return append(bytes.Repeat([]byte{128}, many), behind...)
}

func TestGetErrorsInTheirOrder(t *testing.T) {
	rows := []struct {
		name string
		b    []byte
		at   int
		want api.Errno
	}{
		{"below the beginning", []byte{1}, -1, api.ErrRange},
		{"far below the beginning", []byte{1}, math.MinInt, api.ErrRange},
		{"past the end", []byte{1}, 2, api.ErrRange},
		{"far past the end", []byte{1}, math.MaxInt, api.ErrRange},
		{"past the end of nothing", nil, 1, api.ErrRange},
		{"nothing", nil, 0, api.ErrEnd},
		{"at the end", []byte{1}, 1, api.ErrEnd},
		{"one that ends too early", []byte{128}, 0, api.ErrEnd},
		{"eight that end too early", high(8), 0, api.ErrEnd},
		{"eight behind one that end too early", high(9), 1, api.ErrEnd},
		{"nine, and the end", high(9), 0, api.ErrForm},
		{"nine, and a number's end", high(9, 1), 0, api.ErrForm},
		{"nine, and more", high(20), 0, api.ErrForm},
		{"nine that are all ones", bytes.Repeat([]byte{255}, 9), 0, api.ErrForm},
		{"two that are too long", []byte{128, 0}, 0, api.ErrForm},
		{"two that are too long, and more", []byte{255, 0, 7}, 0, api.ErrForm},
		{"nine that are too long", high(8, 0), 0, api.ErrForm},
		{"one above the greatest", high(8, 64), 0, api.ErrBig},
		{"the greatest that nine bytes tell", append(bytes.Repeat([]byte{255}, 8), 127), 0, api.ErrBig},
	}
	for _, r := range rows {
		if n, at, err := Get(r.b, r.at); n != 0 || at != 0 || err != r.want {
			t.Errorf("Get of %s = %d, %d, %d, want error %d", r.name, n, at, err, r.want)
		}
		if n, at, err := GetInt(r.b, r.at); n != 0 || at != 0 || err != r.want {
			t.Errorf("GetInt of %s = %d, %d, %d, want error %d", r.name, n, at, err, r.want)
		}
		if s, at, err := GetText(r.b, r.at, 0); s != "" || at != 0 || err != r.want {
			t.Errorf("GetText of %s = %q, %d, %d, want error %d", r.name, s, at, err, r.want)
		}
	}
}

func TestGetTakesTheEnds(t *testing.T) {
	if n, at, err := Get([]byte{0}, 0); n != 0 || at != 1 || err != api.OK {
		t.Errorf("Get of 0 = %d, %d, %d", n, at, err)
	}
	greatest := append(bytes.Repeat([]byte{255}, 8), 63)
	if n, at, err := Get(greatest, 0); n != api.MaxNum || at != 9 || err != api.OK {
		t.Errorf("Get of MaxNum = %d, %d, %d", n, at, err)
	}
	if n, at, err := GetInt(greatest, 0); n != -1<<61 || at != 9 || err != api.OK {
		t.Errorf("GetInt of the least = %d, %d, %d", n, at, err)
	}
}

func TestGetTextErrorsInTheirOrder(t *testing.T) {
	great := Put(nil, api.MaxNum)
	rows := []struct {
		name string
		b    []byte
		most int
		want api.Errno
	}{
		{"a text above most", []byte{3, 97, 98, 99}, 2, api.ErrBig},
		{"a text above most that ends too early", []byte{3, 97}, 2, api.ErrBig},
		{"a text of one byte, most below 0", []byte{1, 97}, -1, api.ErrBig},
		{"a text of one byte, most far below 0", []byte{1, 97}, math.MinInt, api.ErrBig},
		{"a text that ends too early", []byte{3, 97, 98}, 3, api.ErrEnd},
		{"a text of which nothing follows", []byte{1}, 1, api.ErrEnd},
		{"a very great length above most", great, 9, api.ErrBig},
		{"a very great length", great, math.MaxInt, api.ErrEnd},
		{"a length that is too long", []byte{129, 0, 97}, 1, api.ErrForm},
	}
	for _, r := range rows {
		if s, at, err := GetText(r.b, 0, r.most); s != "" || at != 0 || err != r.want {
			t.Errorf("GetText of %s = %q, %d, %d, want error %d", r.name, s, at, err, r.want)
		}
	}
	for _, most := range []int{0, -1, math.MinInt, math.MaxInt} {
		if s, at, err := GetText([]byte{9, 0}, 1, most); s != "" || at != 2 || err != api.OK {
			t.Errorf("GetText of no bytes, most %d = %q, %d, %d", most, s, at, err)
		}
	}
	if s, at, err := GetText([]byte{2, 97, 98, 99}, 0, 2); s != "ab" || at != 3 || err != api.OK {
		t.Errorf("GetText of ab = %q, %d, %d", s, at, err)
	}
}

// What is handed in is neither changed nor kept, its spare room included.
func TestPutIsNewMemory(t *testing.T) {
	puts := map[string]func([]byte) []byte{
		"Put":     func(b []byte) []byte { return Put(b, 300) },
		"PutInt":  func(b []byte) []byte { return PutInt(b, -300) },
		"PutText": func(b []byte) []byte { return PutText(b, "ab") },
	}
	for name, put := range puts {
		room := bytes.Repeat([]byte{7}, 40)
		first := put(room[:3])
		kept := bytes.Clone(first)
		if !bytes.Equal(room, bytes.Repeat([]byte{7}, 40)) {
			t.Errorf("%s changed what was handed in: %v", name, room)
		}
		clear(room)
		if !bytes.Equal(first, kept) || !bytes.Equal(first[:3], []byte{7, 7, 7}) {
			t.Errorf("%s keeps what was handed in: %v", name, first)
		}
		second, third := put(first), put(first)
		clear(second[:cap(second)])
		if !bytes.Equal(first, kept) || !bytes.Equal(third[:len(first)], kept) {
			t.Errorf("%s: two answers share memory", name)
		}
	}
}
