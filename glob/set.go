package glob

const wordBits = 64

// set is numbers from 0 to 255, a bit for each: bytes, or places of a pattern.
type set [256 / wordBits]uint64

// allBytes: every byte.
func allBytes() set {
	var s set
	s.turn()
	return s
}

// butSlash: every byte but "/".
func butSlash() set {
	s := allBytes()
	s.drop('/')
	return s
}

// add: i is in the set.
func (s *set) add(i byte) {
	s[i/wordBits] |= 1 << (i % wordBits)
}

// drop: i is not in the set.
func (s *set) drop(i byte) {
	s[i/wordBits] &^= 1 << (i % wordBits)
}

// turn: what was in the set is not, and what was not is.
func (s *set) turn() {
	for i := range s {
		s[i] = ^s[i]
	}
}

// has: is i in the set?
func (s *set) has(i byte) bool {
	return s[i/wordBits]>>(i%wordBits)&1 == 1
}
