package glob

// match: is all of s matched by all signs?
func (l signs) match(s string) bool {
	// All places of the pattern that some way through it has come to: so a text is gone through once, however many ways there are.
	var at set
	l.reach(&at, 0)
	for i := range len(s) {
		at = l.step(&at, s[i])
		if at == (set{}) {
			return false
		}
	}
	return at.has(byte(len(l)))
}

// step: the places that are come to by one more byte.
func (l signs) step(at *set, c byte) set {
	var out set
	for i := range l {
		if !at.has(byte(i)) || !l[i].from.has(c) {
			continue
		}
		if l[i].many {
			l.reach(&out, i)
		} else {
			l.reach(&out, i+1)
		}
	}
	return out
}

// reach: a place is come to, and the one behind it, if what stands between them may match nothing. (One is enough: stars in a row are one sign.)
func (l signs) reach(at *set, i int) {
	at.add(byte(i))
	if i < len(l) && l[i].many {
		at.add(byte(i + 1))
	}
}

// head: the bytes of the signs that stand for themselves, up to the first other one.
func (l signs) head() string {
	var out []byte
	for _, x := range l {
		if !x.itself {
			break
		}
		out = append(out, x.text)
	}
	return string(out)
}
