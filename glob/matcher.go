package glob

import "millpond/api"

// matcher holds texts against one pattern. It goes through a text once, at all places of the pattern that may be meant side by side: to try one behind the other would take far too long with long patterns.
type matcher struct {
	fold  bool
	sets  []set       // the bytes of each part, but of each *
	stays places      // those ahead of which a * stands
	steps [256]places // of each byte that was met: from where it leads one part further
}

// places are places in a pattern, a bit each: place i stands ahead of set i, the last one behind all of them.
type places []uint64

// read takes a pattern, but none that is too long: then it tells false, and nothing matches.
func (m *matcher) read(p string) bool {
	if len(p) > api.MaxBulk {
		return false
	}
	m.stays = make(places, len(p)/64+1) // a pattern has no more parts than bytes
	for g := range parts(p) {
		if g.Kind == api.GlobAny {
			m.stays.add(len(m.sets))
			continue
		}
		m.sets = append(m.sets, setOf(g, m.fold))
	}
	return true
}

// matches tells whether a text matches.
func (m *matcher) matches(s string) bool {
	if len(s) > api.MaxBulk {
		return false
	}
	at := make(places, len(m.stays))
	at.add(0)
	for i := range len(s) {
		if !at.move(m.step(compared(s[i], m.fold)), m.stays) {
			return false
		}
	}
	return at.has(len(m.sets))
}

// step are the places from which a byte leads one part further.
func (m *matcher) step(c byte) places {
	if m.steps[c] == nil {
		from := make(places, len(m.stays))
		for i := range m.sets {
			if m.sets[i].has(c) {
				from.add(i)
			}
		}
		m.steps[c] = from
	}
	return m.steps[c]
}

// move goes on from each place: one part further from those of step, and to itself from those of stays. It tells whether any place is left.
func (l places) move(step, stays places) bool {
	var over, all uint64
	for i, word := range l {
		further := word & step[i]
		l[i] = further<<1 | over | word&stays[i]
		over = further >> 63
		all |= l[i]
	}
	return all != 0
}

// add puts a place in.
func (l places) add(i int) { l[i>>6] |= 1 << (i & 63) }

// has tells whether a place is in it.
func (l places) has(i int) bool { return l[i>>6]>>(i&63)&1 == 1 }
