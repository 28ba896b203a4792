// Package num is layer 1: see shared/doc/01-num.md.
package num

import "remora/api"

const (
	numberBits = 62 // api.MaxNum is all ones of so many
	groupBits  = 7
	mostGroups = (numberBits + groupBits - 1) / groupBits
	more       = 1 << groupBits // in every byte of a number but its last
	leastInt   = -1 << 61
	mostInt    = 1<<61 - 1
)

// Put: b, and behind it the bytes of n.
func Put(b []byte, n int) []byte {
	return lengthened(copied(b, mostGroups), n)
}

// PutInt: b, and behind it the bytes of n with a sign.
func PutInt(b []byte, n int) []byte {
	n = min(max(n, leastInt), mostInt)
	if n < 0 {
		return Put(b, 2*(-n-1)+1)
	}
	return Put(b, 2*n)
}

// PutText: b, and behind it the length of s, and s.
func PutText(b []byte, s string) []byte {
	out := lengthened(copied(b, mostGroups+len(s)), len(s))
	return append(out, s...)
}

// Size: how many bytes Put puts for n.
func Size(n int) int {
	_, size := groups(n)
	return size
}

// Get: the number that stands at a place, and the place behind it.
func Get(b []byte, at int) (int, int, api.Errno) {
	if at < 0 || at > len(b) {
		return 0, 0, api.ErrRange
	}
	n := 0
	for i := range mostGroups {
		if at+i == len(b) {
			return 0, 0, api.ErrEnd
		}
		c := int(b[at+i])
		n |= (c & (more - 1)) << (groupBits * i)
		switch {
		case c >= more:
			continue
		case c == 0 && i > 0:
			return 0, 0, api.ErrForm
		case n > api.MaxNum:
			return 0, 0, api.ErrBig
		}
		return n, at + i + 1, api.OK
	}
	return 0, 0, api.ErrForm
}

// GetInt: the number with a sign that stands at a place, and the place behind it.
func GetInt(b []byte, at int) (int, int, api.Errno) {
	n, behind, err := Get(b, at)
	if err != api.OK {
		return 0, 0, err
	}
	if n%2 == 1 {
		return -(n / 2) - 1, behind, api.OK
	}
	return n / 2, behind, api.OK
}

// GetText: the text of at most most bytes that stands at a place, and the place behind it.
func GetText(b []byte, at, most int) (string, int, api.Errno) {
	n, from, err := Get(b, at)
	switch {
	case err != api.OK:
		return "", 0, err
	case n > max(most, 0):
		return "", 0, api.ErrBig
	case n > len(b)-from: // not from+n: a told length may be so great that the sum goes round
		return "", 0, api.ErrEnd
	}
	return string(b[from : from+n]), from + n, api.OK
}

// groups: the groups of seven bits of n, brought within the bounds, the lowest first, and how many of them count.
func groups(n int) ([mostGroups]byte, int) {
	n = min(max(n, 0), api.MaxNum)
	var row [mostGroups]byte
	size := 1
	for bit := range numberBits {
		if n>>bit&1 == 1 {
			row[bit/groupBits] |= 1 << (bit % groupBits)
			size = bit/groupBits + 1
		}
	}
	return row, size
}

// lengthened: own, which no caller has, by the bytes of n.
func lengthened(own []byte, n int) []byte {
	row, size := groups(n)
	for i := range size - 1 {
		own = append(own, row[i]|more)
	}
	return append(own, row[size-1])
}

// copied: b in new memory, with room for more bytes. An append to b itself would write into the caller's spare room.
func copied(b []byte, room int) []byte {
	out := make([]byte, len(b), len(b)+room)
	copy(out, b)
	return out
}
