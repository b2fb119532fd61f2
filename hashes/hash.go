package hashes

import (
	"slices"
	"strings"

	"millpond/api"
	"millpond/work"
)

// hash is a call's work on the hash of its key, taken out of the space; what changes it is laid into the space again.
type hash struct {
	*work.Work
	key    string
	there  bool
	fields []api.Field    // as the space has them, rising, and behind these the new ones
	place  map[string]int // of each field among these
}

// look looks at the key of a call; false: it has another kind.
func look(w *work.Work) (*hash, bool) {
	key := w.Args[1]
	v, there := w.Look(key)
	if there && v.Kind != api.KHash {
		return nil, false
	}
	h := &hash{Work: w, key: key, there: there, fields: v.H, place: make(map[string]int, len(v.H))}
	for i, f := range v.H {
		h.place[f.F] = i
	}
	return h, true
}

// value is what a field has, if it is there.
func (h *hash) value(name string) (v string, there bool) {
	i, there := h.place[name]
	if !there {
		return "", false
	}
	return h.fields[i].V, true
}

// give gives a field its value.
func (h *hash) give(name, v string) {
	i, there := h.place[name]
	if !there {
		i = len(h.fields)
		h.place[name] = i
		h.fields = append(h.fields, api.Field{F: name})
	}
	h.fields[i].V = v
}

// lay lays the hash: these are its fields. Else it tells the error.
func (h *hash) lay(l []api.Field) (wrong string) {
	if len(l) == 0 {
		h.Space.Del(h.key)
		return ""
	}
	if len(l) > api.MaxLen {
		return work.Large
	}
	if h.Space.Put(h.key, api.Value{Kind: api.KHash, H: l}, h.End(h.key, h.there)) != api.OK {
		return work.Full
	}
	return ""
}

// rising are fields by their names.
func rising(l []api.Field) []api.Field {
	return slices.SortedFunc(slices.Values(l), func(a, b api.Field) int { return strings.Compare(a.F, b.F) })
}
