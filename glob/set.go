package glob

import "millpond/api"

// set is a set of bytes, a bit each.
type set [4]uint64

// setOf are the bytes that a part, which is no *, matches; with fold a letter is to be asked for as its small one.
func setOf(g api.Glob, fold bool) set {
	var s set
	switch g.Kind {
	case api.GlobByte:
		s.add(compared(g.C, fold))
	case api.GlobOne: // as a class of no bytes, turned round
		g.Not = true
		fallthrough
	case api.GlobClass:
		for _, r := range g.Ranges {
			s.addRange(compared(r.From, fold), compared(r.To, fold))
		}
		if g.Not {
			s.turn()
		}
	}
	return s
}

// add puts a byte in.
func (s *set) add(c byte) { s[c>>6] |= 1 << (c & 63) }

// addRange puts in all bytes from the one to the other, whichever is lesser: small letters may stand the other way round than the great ones that were written.
func (s *set) addRange(one, other byte) {
	for c := int(min(one, other)); c <= int(max(one, other)); c++ { // as a byte it would go round behind 255
		s.add(byte(c))
	}
}

// has tells whether a byte is in it.
func (s *set) has(c byte) bool { return s[c>>6]>>(c&63)&1 == 1 }

// turn makes it the set of all other bytes.
func (s *set) turn() {
	for i := range s {
		s[i] = ^s[i]
	}
}

// compared is the byte that is compared for one: with fold a letter's small one.
func compared(c byte, fold bool) byte {
	if fold && c >= 'A' && c <= 'Z' {
		return c - 'A' + 'a'
	}
	return c
}
