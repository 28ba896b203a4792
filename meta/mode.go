package meta

import (
	"strings"

	"remora/api"
)

// The letters of a mode with all of its nine lower bits, the highest first; and those that stand in their thirds, if the bits above are in it, with an x and without.
const (
	plain = "rwxrwxrwx"
	withX = "sst"
	noX   = "SST"
)

// What belongs to the owner, to the group and to the others, and what each letter means of all of them: what a letter means of some is in both.
const (
	owners = 04700
	groups = 02070
	others = 01007

	reads  = 0444
	writes = 0222
	runs   = 0111
	sets   = 06000
	sticks = 01000
)

// change is a word that changes a mode: whose bits, how (by its sign), and the letters of which ones.
type change struct {
	whose int
	how   byte
	what  string
}

// Text: the mode's letters.
func Text(mode int) string {
	if !mayMode(mode) {
		return ""
	}
	out := make([]byte, 0, len(plain))
	for place := range plain {
		out = append(out, letter(mode, place))
	}
	return string(out)
}

// Parse: the mode of nine letters.
func Parse(s string) (int, api.Errno) {
	if len(s) != len(plain) {
		return 0, api.ErrForm
	}
	mode := 0
	for place := range len(s) {
		bits, ok := meant(s[place], place)
		if !ok {
			return 0, api.ErrForm
		}
		mode |= bits
	}
	return mode, api.OK
}

// Change: the mode, changed by all words, one behind the other.
func Change(mode int, words string, dir bool) (int, api.Errno) {
	if !mayMode(mode) {
		return 0, api.ErrArg
	}
	for word := range strings.SplitSeq(words, ",") {
		c, ok := readChange(word)
		if !ok {
			return 0, api.ErrForm
		}
		mode = c.done(mode, dir)
	}
	return mode, api.OK
}

// lowBit and highBit: the bits that the letter at a place tells: of the lower nine, and, at a third, of those above.
func lowBit(place int) int  { return 256 >> place }
func highBit(place int) int { return 2048 >> (place / 3) }

// isThird: is it the place of an x, where a bit above is told too?
func isThird(place int) bool { return plain[place] == 'x' }

// letter: the mode's letter at a place.
func letter(mode, place int) byte {
	low, high := mode&lowBit(place) != 0, isThird(place) && mode&highBit(place) != 0
	switch {
	case high && low:
		return withX[place/3]
	case high:
		return noX[place/3]
	case low:
		return plain[place]
	}
	return '-'
}

// meant: the bits that a letter means at a place; false, if it may not stand there.
func meant(c byte, place int) (int, bool) {
	switch {
	case c == '-':
		return 0, true
	case c == plain[place]:
		return lowBit(place), true
	case !isThird(place):
		return 0, false
	}
	bits := 0
	switch c {
	case withX[place/3]:
		bits = lowBit(place)
		fallthrough
	case noX[place/3]:
		return bits | highBit(place), true
	}
	return 0, false
}

// readChange: the change of a word; false, if it is none.
func readChange(word string) (change, bool) {
	who := led(word, "ugoa")
	if who == len(word) || strings.IndexByte("+-=", word[who]) < 0 {
		return change{}, false
	}
	c := change{whose: whose(word[:who]), how: word[who], what: word[who+1:]}
	return c, led(c.what, "rwxXst") == len(c.what)
}

// led: how many of the letters s begins with, each at most once, and in their order.
func led(s, letters string) int {
	n := 0
	for i := range len(letters) {
		if n < len(s) && s[n] == letters[i] {
			n++
		}
	}
	return n
}

// whose: what belongs to those who are told; none is all.
func whose(who string) int {
	if who == "" {
		return owners | groups | others
	}
	out := 0
	for i := range len(who) {
		switch who[i] {
		case 'u':
			out |= owners
		case 'g':
			out |= groups
		case 'a':
			out |= owners | groups
			fallthrough
		case 'o':
			out |= others
		}
	}
	return out
}

// done: the mode behind the change.
func (c change) done(mode int, dir bool) int {
	bits := c.whose & c.asked(mode, dir)
	switch c.how {
	case '-':
		return mode &^ bits
	case '=':
		mode &^= c.whose
		fallthrough
	default:
		return mode | bits
	}
}

// asked: what the letters mean, of all.
func (c change) asked(mode int, dir bool) int {
	out := 0
	for i := range len(c.what) {
		switch c.what[i] {
		case 'r':
			out |= reads
		case 'w':
			out |= writes
		case 'X':
			if !dir && mode&runs == 0 {
				break
			}
			fallthrough
		case 'x':
			out |= runs
		case 's':
			out |= sets
		case 't':
			out |= sticks
		}
	}
	return out
}
