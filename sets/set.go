package sets

import (
	"slices"

	"millpond/api"
	"millpond/work"
)

// set is what a key has, as it was looked at.
type set struct {
	key     string
	members []string
	there   bool
	other   bool // it has another kind
}

// look looks at a key.
func look(w *work.Work, key string) set {
	v, there := w.Look(key)
	if there && v.Kind != api.KSet {
		return set{key: key, there: true, other: true}
	}
	return set{key: key, members: v.L, there: there}
}

// lay gives a set's key other members, its end as it was; else it tells the error.
func (s set) lay(w *work.Work, l ...string) (wrong string) {
	return put(w, s.key, w.End(s.key, s.there), l...)
}

// put gives a key members and an end, and takes it out, if there are none; else it tells the error.
func put(w *work.Work, key string, at int, l ...string) (wrong string) {
	if len(l) == 0 {
		w.Space.Del(key)
		return ""
	}
	if len(l) > api.MaxLen {
		return work.Large
	}
	if w.Space.Put(key, api.Value{Kind: api.KSet, L: l}, at) != api.OK {
		return work.Full
	}
	return ""
}

// tell tells a command of a key and members.
func tell(w *work.Work, name, key string, l ...string) {
	w.Tell(append([]string{name, key}, l...)...)
}

// rowMost is how many members of a long row one command tells at most.
const rowMost = 1000

// tellRow tells a long row of members.
func tellRow(w *work.Work, name, key string, l ...string) {
	for part := range slices.Chunk(l, rowMost) {
		tell(w, name, key, part...)
	}
}

// bulks is the reply of some members.
func bulks(l ...string) api.Reply {
	var r []api.Reply
	for _, m := range l {
		r = append(r, work.Bulk(m, true))
	}
	return work.Array(r)
}
