package hashes

import (
	"strings"

	"millpond/api"
	"millpond/work"
)

// get does HGET and HMGET.
func (h *hash) get(ofOne bool) api.Reply {
	var l []api.Reply
	for _, name := range h.Args[2:] {
		v, there := h.value(name)
		l = append(l, work.Bulk(strings.Clone(v), there)) // one that is asked for again is told in memory of its own, too
	}
	if ofOne {
		return l[0]
	}
	return work.Array(l)
}

// exists does HEXISTS.
func (h *hash) exists() api.Reply {
	if _, there := h.value(h.Args[2]); there {
		return work.Int(1)
	}
	return work.Int(0)
}

// length does HSTRLEN.
func (h *hash) length() api.Reply {
	v, _ := h.value(h.Args[2])
	return work.Int(int64(len(v)))
}

// all does HKEYS, HVALS and HGETALL: of all fields the names, the values, or both.
func (h *hash) all(names, values bool) api.Reply {
	var l []api.Reply
	for _, f := range h.fields {
		if names {
			l = append(l, work.Bulk(f.F, true))
		}
		if values {
			l = append(l, work.Bulk(f.V, true))
		}
	}
	return work.Array(l)
}
