package hashes

import (
	"slices"

	"millpond/api"
	"millpond/number"
	"millpond/work"
)

// set does HSET, and HSETNX of a field that is not there.
func (h *hash) set() api.Reply {
	fresh, wrong := h.put(h.Args[2:]...)
	if wrong != "" {
		return work.Error(wrong)
	}
	return work.Int(int64(fresh))
}

// put gives fields their values, each of which stands behind its field, and tells what changed: how many are new; else the error.
func (h *hash) put(pairs ...string) (fresh int, wrong string) {
	was := slices.Clone(h.fields)
	for pair := range slices.Chunk(pairs, 2) {
		h.give(pair[0], pair[1])
	}
	changed := h.unlike(was)
	if len(changed) == 0 {
		return 0, ""
	}
	if wrong = h.lay(rising(h.fields)); wrong != "" {
		return 0, wrong
	}
	told := []string{"HSET", h.key}
	for _, f := range rising(changed) {
		told = append(told, f.F, f.V)
	}
	h.Tell(told...)
	return len(h.fields) - len(was), ""
}

// unlike are the fields that are new, or have another value than before.
func (h *hash) unlike(was []api.Field) []api.Field {
	l := slices.Clone(h.fields[len(was):])
	for i, f := range was {
		if h.fields[i] != f {
			l = append(l, h.fields[i])
		}
	}
	return l
}

// remove does HDEL.
func (h *hash) remove() api.Reply {
	var gone []string
	for _, name := range h.Args[2:] {
		if _, there := h.place[name]; there {
			delete(h.place, name) // it may be named again
			gone = append(gone, name)
		}
	}
	if len(gone) == 0 {
		return work.Int(0)
	}
	h.lay(slices.DeleteFunc(h.fields, func(f api.Field) bool {
		_, stays := h.place[f.F]
		return !stays
	}))
	slices.Sort(gone)
	h.Tell(append([]string{"HDEL", h.key}, gone...)...)
	return work.Int(int64(len(gone)))
}

// count does HINCRBY.
func (h *hash) count() api.Reply {
	name := h.Args[2]
	step, _ := number.Parse(h.Args[3]) // a number, as the key would not have been looked at else
	v, there := h.value(name)
	if !there {
		v = "0"
	}
	n, e := number.Parse(v)
	if e != api.OK {
		return work.Error("ERR hash value is not an integer")
	}
	n, e = number.Sum(n, step)
	if e != api.OK {
		return work.Error(work.Over)
	}
	if _, wrong := h.put(name, number.Text(n)); wrong != "" {
		return work.Error(wrong)
	}
	return work.Int(n)
}
