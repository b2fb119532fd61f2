package zsets

import (
	"slices"
	"strings"

	"millpond/api"
	"millpond/number"
	"millpond/skip"
	"millpond/work"
)

// zset is a key's sorted set, taken out of the space; what changes it is laid into the space again.
type zset struct {
	*skip.List
	key   string
	there bool
	was   []api.Scored // as the space has it
}

// look looks at a key, which is to have no other kind.
func look(w *work.Work, key string) zset {
	v, there := w.Look(key)
	if there && v.Kind != api.KZset {
		work.Fail(work.Wrong)
	}
	l, _ := skip.Load(0, v.Z...)
	return zset{l, key, there, v.Z}
}

// lay lays a sorted set; changed: it is another one than it was.
func (z zset) lay(w *work.Work) (changed bool) {
	l := z.All()
	if slices.Equal(l, z.was) {
		return false
	}
	if len(l) > api.MaxLen {
		work.Fail(work.Large)
	}
	if len(l) == 0 {
		w.Space.Del(z.key)
		return true
	}
	if w.Space.Put(z.key, api.Value{Kind: api.KZset, Z: l}, w.End(z.key, z.there)) != api.OK {
		work.Fail(work.Full)
	}
	return true
}

// row are n members from a rank on: in order, or, back, against it.
func (z zset) row(rank, n int, back bool) []api.Scored {
	var l []api.Scored
	for _, m := range z.From(rank, back) {
		if len(l) == n {
			break
		}
		l = append(l, m)
	}
	return l
}

// boundOf is the bound of an argument.
func boundOf(text string) api.Bound {
	b, e := skip.Read(text)
	if e != api.OK {
		work.Fail("ERR min or max is not a float")
	}
	return b
}

// score is the reply of a score, if there is one. Its text is a copy, as short numbers' texts are pieces of one text.
func score(n int64, there bool) api.Reply {
	return work.Bulk(strings.Clone(number.Text(n)), there)
}

// rowOf is the reply of some members, each with its score behind it, if they are asked for.
func rowOf(withScores bool, l ...api.Scored) api.Reply {
	var r []api.Reply
	for _, m := range l {
		r = append(r, work.Bulk(m.M, true))
		if withScores {
			r = append(r, score(m.N, true))
		}
	}
	return work.Array(r)
}
