package snapshot

import (
	"bytes"

	"millpond/api"
	"millpond/image"
)

// reader reads a snapshot from the bytes that are left.
type reader struct{ left }

// opened is a reader of what stands between a snapshot's head and its sum.
func opened(b []byte) reader {
	switch {
	case len(b) > api.MaxStore:
		panic(tooLong)
	case len(b) < bareSize || !bytes.HasPrefix(b, []byte(head)):
		panic(noSnapshot)
	}
	all, sum := b[:len(b)-sumSize], left(b[len(b)-sumSize:])
	if uint64(Sum(all)) != sum.number(sumSize) {
		panic(otherSum)
	}
	return reader{left(all[len(head):])}
}

// history reads a history that may be.
func (r *reader) history() api.History {
	h := api.History{ID: r.number(longSize), Offset: int(r.long())}
	if h.ID == 0 || !isOffset(h.Offset) {
		panic(noSnapshot)
	}
	return h
}

// image reads the entries, up to the end, and holds them against the rules of images: then they are written in one way alone.
func (r *reader) image() []api.Entry {
	l := row(r, api.MaxKeys, r.entry)
	if len(r.left) > 0 || image.Check(l) != api.OK {
		panic(noSnapshot)
	}
	return l
}

// entry reads an entry, which need not be one that may be.
func (r *reader) entry() api.Entry {
	kind := api.Kind(r.number(kindSize))
	at := int(r.long())
	return api.Entry{Key: r.text(), V: r.value(kind), At: at}
}

// value reads what a value of a kind has.
func (r *reader) value(kind api.Kind) api.Value {
	v := api.Value{Kind: kind}
	switch kind {
	case api.KString:
		v.S = r.text()
	case api.KSet:
		fallthrough // members stand as items do
	case api.KList:
		v.L = row(r, api.MaxLen, r.text)
	case api.KZset:
		v.Z = row(r, api.MaxLen, r.member)
	case api.KHash:
		v.H = row(r, api.MaxLen, r.field)
	default:
		panic(noSnapshot)
	}
	return v
}

// member reads a member of a sorted set, with its score.
func (r *reader) member() api.Scored { return api.Scored{M: r.text(), N: r.long()} }

// field reads a field of a hash, with its value.
func (r *reader) field() api.Field { return api.Field{F: r.text(), V: r.text()} }

// row reads how many things come, and them; none, if these are more than may be. Room for all of them is not made ahead: the number may tell more than there are.
func row[T any](r *reader, most int, read func() T) []T {
	n := r.length()
	if n > most {
		panic(noSnapshot)
	}
	var l []T
	for range n {
		l = append(l, read())
	}
	return l
}
