package strs

import (
	"millpond/api"
	"millpond/work"
)

// pairs are keys, each with its text behind it.
type pairs []string

// lasts are the places of the keys; of one that comes again the last place: what stands behind it there is what the key has in the end.
func (p pairs) lasts() map[string]int {
	at := map[string]int{}
	for i := 0; i < len(p); i += 2 {
		at[p[i]] = i
	}
	return at
}

// setMany does MSET and MSETNX.
func setMany(w *work.Work, onlyNew bool) api.Reply {
	p := pairs(w.Args[1:])
	if len(p)%2 != 0 {
		return w.Arguments()
	}
	if onlyNew && anyThere(w, p) {
		return work.Int(0)
	}
	at := p.lasts()
	if !hasRoom(w, at) {
		return work.Error(work.Full)
	}
	if putAll(w, p, at) {
		w.Tell(append([]string{"MSET"}, p...)...)
	}
	if onlyNew {
		return work.Int(1)
	}
	return work.OK()
}

// anyThere looks at all keys: is one there?
func anyThere(w *work.Work, p pairs) bool {
	one := false
	for i := 0; i < len(p); i += 2 {
		_, there := w.Look(p[i])
		one = one || there
	}
	return one
}

// hasRoom tells whether there is room for those keys that do not stand in the space.
func hasRoom(w *work.Work, at map[string]int) bool {
	n := w.Space.Len()
	for key := range at {
		if _, stands := w.Space.Look(key); !stands {
			n++
		}
	}
	return n <= api.MaxKeys
}

// putAll gives each key its text, and no end: was that a change?
func putAll(w *work.Work, p pairs, at map[string]int) bool {
	one := false
	for i := 0; i < len(p); i += 2 {
		if at[p[i]] == i {
			changed, _ := put(w, p[i], p[i+1], api.Never)
			one = one || changed
		}
	}
	return one
}
