package glob

import (
	"strings"

	"remora/api"
)

// sign is a part of a pattern: one byte out of a set, or as many of them as there may be.
type sign struct {
	from   set
	many   bool
	itself bool // it stands for one byte, itself
	text   byte // that byte
}

// signs is a pattern that may be.
type signs []sign

// read: the signs of p.
func read(p string) (signs, api.Errno) {
	if len(p) > api.MaxPattern {
		return nil, api.ErrBig
	}
	out := make(signs, 0, len(p))
search:
	for at := 0; at < len(p); {
		if p[at] != '[' {
			x, behind, ok := readSign(p, at)
			if !ok {
				return nil, api.ErrForm
			}
			out, at = append(out, x), behind
			continue
		}
		var c class
		for at = c.begin(p, at); at < len(p); {
			if p[at] == ']' {
				if c.empty() {
					return nil, api.ErrForm
				}
				out, at = append(out, c.sign()), at+1
				continue search
			}
			first, last, behind, ok := readMember(p, at)
			if !ok {
				return nil, api.ErrForm
			}
			c.add(first, last)
			at = behind
		}
		return nil, api.ErrForm
	}
	return out, api.OK
}

// readSign: the sign at a place where no class begins, and the place behind it.
func readSign(p string, at int) (sign, int, bool) {
	switch p[at] {
	case '?':
		return sign{from: butSlash()}, at + 1, true
	case '*':
		x, behind := readStars(p, at)
		return x, behind, true
	}
	c, behind, ok := readByte(p, at)
	if !ok {
		return sign{}, 0, false
	}
	x := sign{itself: true, text: c}
	x.from.add(c)
	return x, behind, true
}

// readStars: all stars from a place on, as one sign.
func readStars(p string, at int) (sign, int) {
	behind := len(p) - len(strings.TrimLeft(p[at:], "*"))
	if behind-at > 1 {
		return sign{from: allBytes(), many: true}, behind
	}
	return sign{from: butSlash(), many: true}, behind
}

// readByte: the byte that stands for itself at a place, with a backslash or without.
func readByte(p string, at int) (byte, int, bool) {
	if at < len(p) && p[at] == '\\' {
		at++
	}
	if at >= len(p) {
		return 0, 0, false
	}
	return p[at], at + 1, true
}

// readMember: the first and the last byte of the member at a place; false, if it has no end, or ends below its first byte.
func readMember(p string, at int) (byte, byte, int, bool) {
	first, at, ok := readByte(p, at)
	if !ok {
		return 0, 0, 0, false
	}
	if !strings.HasPrefix(p[at:], "-") || strings.HasPrefix(p[at:], "-]") {
		return first, first, at, true
	}
	last, at, ok := readByte(p, at+1)
	return first, last, at, ok && first <= last
}

// class is a class as far as it is read.
type class struct {
	not   bool
	named set
}

// begin: the place of the first member of the class at a place.
func (c *class) begin(p string, at int) int {
	at++
	c.not = strings.HasPrefix(p[at:], "!")
	if c.not {
		at++
	}
	return at
}

// add: all bytes from the first to the last one are members.
func (c *class) add(first, last byte) {
	for i := int(first); i <= int(last); i++ { // a byte would never come behind 255
		c.named.add(byte(i))
	}
}

// empty: was there no member yet?
func (c *class) empty() bool {
	return c.named == set{}
}

// sign: the class as a sign.
func (c *class) sign() sign {
	from := c.named
	if c.not {
		from.turn()
	}
	from.drop('/')
	return sign{from: from}
}
