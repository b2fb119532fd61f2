package image

import (
	"cmp"
	"slices"
	"strings"

	"millpond/api"
)

// by is the order of things by a text of theirs.
func by[T any](text func(x T) string) func(a, b T) int {
	return func(a, b T) int { return strings.Compare(text(a), text(b)) }
}

// byScore is the order of a sorted set's members.
func byScore(a, b api.Scored) int {
	return cmp.Or(cmp.Compare(a.N, b.N), strings.Compare(a.M, b.M))
}

func keyOf(e api.Entry) string  { return e.Key }
func nameOf(f api.Field) string { return f.F }

// rises tells whether each thing of a row stands ahead of the next one in an order; none comes twice then.
func rises[T any](l []T, order func(a, b T) int) bool {
	for i := range len(l) - 1 {
		if order(l[i], l[i+1]) >= 0 {
			return false
		}
	}
	return true
}

// every tells whether something holds of all things of a row.
func every[T any](l []T, holds func(x T) bool) bool {
	return !slices.ContainsFunc(l, func(x T) bool { return !holds(x) })
}

// ordered is a row of its own, in order.
func ordered[T any](l []T, order func(a, b T) int) []T {
	own := slices.Clone(l)
	slices.SortFunc(own, order)
	return own
}

// inOrder is an entry whose members or fields are in their order; what its value has beside them stays.
func inOrder(e api.Entry) api.Entry {
	switch e.V.Kind {
	case api.KSet:
		e.V.L = ordered(e.V.L, strings.Compare)
	case api.KZset:
		e.V.Z = ordered(e.V.Z, byScore)
	case api.KHash:
		e.V.H = ordered(e.V.H, by(nameOf))
	}
	return e
}

// place is the place of the first entry with a key, below 0, if there is none.
func place(l []api.Entry, key string) int {
	return slices.IndexFunc(l, func(e api.Entry) bool { return e.Key == key })
}

// each is a row of its own, of what each thing of another one becomes; nil, if that is empty.
func each[T any](l []T, become func(x T) T) []T {
	own := slices.Grow([]T(nil), len(l))
	for _, x := range l {
		own = append(own, become(x))
	}
	return own
}

// copied are entries in memory of their own, with their texts.
func copied(l []api.Entry) []api.Entry { return each(l, copiedEntry) }

// copiedEntry is an entry in memory of its own.
func copiedEntry(e api.Entry) api.Entry {
	return api.Entry{Key: strings.Clone(e.Key), V: copiedValue(e.V), At: e.At}
}

// copiedValue is a value in memory of its own, whether it may be or not.
func copiedValue(v api.Value) api.Value {
	member := func(m api.Scored) api.Scored { return api.Scored{M: strings.Clone(m.M), N: m.N} }
	field := func(f api.Field) api.Field { return api.Field{F: strings.Clone(f.F), V: strings.Clone(f.V)} }
	return api.Value{Kind: v.Kind, S: strings.Clone(v.S), L: each(v.L, strings.Clone), Z: each(v.Z, member), H: each(v.H, field)}
}
