package table_test

import (
	"slices"
	"testing"

	"millpond/table"
)

// tried is a table beside its model: each call is done by both, and what they tell is held against each other.
type tried struct {
	t *testing.T
	*table.Table[int]
	m *model
}

func newTried(t *testing.T, seed uint64) *tried {
	t.Helper()
	x := &tried{t, table.New[int](seed), newModel(seed)}
	x.check()
	return x
}

func itemsOf(t *table.Table[int]) []item {
	var l []item
	for key, v := range t.All() {
		l = append(l, item{key, v})
	}
	return l
}

// check: what the table tells, and changes nothing, is what the model tells.
func (x *tried) check() {
	x.t.Helper()
	checkSizes(x.t, x.Table, x.m.first, x.m.second, x.m.moved)
	all := x.m.all()
	if l := itemsOf(x.Table); !slices.Equal(l, all) || x.Len() != len(all) {
		x.t.Fatalf("All = %v, Len = %d; want %v", l, x.Len(), all)
	}
}

func checkSizes[V any](t *testing.T, x *table.Table[V], first, second, moved int) {
	t.Helper()
	if a, b, c := x.Sizes(); a != first || b != second || c != moved {
		t.Fatalf("Sizes = %d, %d, %d; want %d, %d, %d", a, b, c, first, second, moved)
	}
}

func (x *tried) put(key string, v int) {
	x.t.Helper()
	if got, want := x.Put(key, v), x.m.put(key, v); got != want {
		x.t.Fatalf("Put(%q) = %t", key, got)
	}
	x.check()
}

func (x *tried) get(key string) {
	x.t.Helper()
	v, ok := x.Get(key)
	if want, there := x.m.get(key); v != want || ok != there {
		x.t.Fatalf("Get(%q) = %d, %t; want %d, %t", key, v, ok, want, there)
	}
	x.check()
}

func (x *tried) look(key string) {
	x.t.Helper()
	v, ok := x.Look(key)
	if want, there := x.m.look(key); v != want || ok != there {
		x.t.Fatalf("Look(%q) = %d, %t; want %d, %t", key, v, ok, want, there)
	}
	x.check()
}

func (x *tried) del(key string) {
	x.t.Helper()
	if got, want := x.Del(key), x.m.del(key); got != want {
		x.t.Fatalf("Del(%q) = %t", key, got)
	}
	x.check()
}

func (x *tried) step() {
	x.t.Helper()
	if got, want := x.Step(), x.m.step(); got != want {
		x.t.Fatalf("Step = %t", got)
	}
	x.check()
}

func (x *tried) pick(draw uint64) {
	x.t.Helper()
	var want item
	all := x.m.all()
	if len(all) > 0 {
		want = all[draw%uint64(len(all))]
	}
	key, v, ok := x.Pick(draw)
	if (item{key, v}) != want || ok != (len(all) > 0) {
		x.t.Fatalf("Pick(%d) = %q, %d, %t; want %v", draw, key, v, ok, want)
	}
	x.check()
}

// anyCall does one call of any sort with one of so many keys; the more it puts, the more of them are there.
func (x *tried) anyCall(m maker, keys, puts int) {
	x.t.Helper()
	key := m.key(keys)
	switch n := m.IntN(puts + 10); {
	case n < 4:
		x.del(key)
	case n < 6:
		x.get(key)
	case n < 7:
		x.look(key)
	case n < 8:
		x.step()
	case n < 9:
		x.pick(m.Uint64())
	default:
		x.put(key, m.Int())
	}
}

// fill puts the keys from one number on, ahead of another one.
func (x *tried) fill(from, to int) {
	x.t.Helper()
	for i := from; i < to; i++ {
		x.put(keyOf(i), i)
	}
}

// settle moves all buckets there are to be moved.
func (x *tried) settle() {
	x.t.Helper()
	for x.m.second > 0 {
		x.step()
	}
}

// empty takes out the keys from one number on, ahead of another one.
func (x *tried) empty(from, to int) {
	x.t.Helper()
	for i := from; i < to; i++ {
		x.del(keyOf(i))
	}
}
