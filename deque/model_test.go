package deque_test

import (
	"math/rand/v2"
	"slices"
	"testing"

	"millpond/api"
	"millpond/deque"
)

// model is a plain list: what any calls leave of it, they leave of a row.
type model []int

func (m *model) insert(i, v int) api.Errno {
	if i < 0 || i > len(*m) {
		return api.ErrRange
	}
	*m = slices.Insert(*m, i, v)
	return api.OK
}

func (m *model) remove(i int) (int, api.Errno) {
	if i < 0 || i >= len(*m) {
		return 0, api.ErrRange
	}
	v := (*m)[i]
	*m = slices.Delete(*m, i, i+1)
	return v, api.OK
}

func (m *model) set(i, v int) api.Errno {
	if i < 0 || i >= len(*m) {
		return api.ErrRange
	}
	(*m)[i] = v
	return api.OK
}

func (m *model) trim(from, to int) api.Errno {
	if from < 0 || from > to || to > len(*m) {
		return api.ErrRange
	}
	*m = (*m)[from:to:to]
	return api.OK
}

// tried is a row beside its model: each call is done by both, and what they tell is held against each other.
type tried struct {
	t *testing.T
	*deque.Deque[int]
	m model
}

func newTried(t *testing.T, l ...int) *tried {
	t.Helper()
	x := &tried{t, deque.Of(l...), slices.Clone(l)}
	x.check()
	return x
}

// turned is a row of the values from 1 to n whose ring, of at least so many slots, was gone through by so many.
func turned(t *testing.T, n, slots, turns int) *tried {
	t.Helper()
	x := newTried(t)
	for v := range slots {
		x.Push(-v)
	}
	for range slots {
		x.Shift()
	}
	for v := range turns {
		x.Push(-v)
		x.Shift()
	}
	for v := range n {
		x.push(v + 1)
	}
	return x
}

// check: what the row tells, and changes nothing, is what the model tells.
func (x *tried) check() {
	x.t.Helper()
	checkRow(x.t, x.Deque, x.m...)
}

func checkRow[T comparable](t *testing.T, d *deque.Deque[T], want ...T) {
	t.Helper()
	if d.Len() != len(want) {
		t.Fatalf("Len = %d; want %d", d.Len(), len(want))
	}
	if l := d.List(); !slices.Equal(l, want) {
		t.Fatalf("List = %v; want %v", l, want)
	}
	for i, w := range want {
		if v, e := d.At(i); v != w || e != api.OK {
			t.Fatalf("At(%d) = %v, %v; want %v", i, v, e, w)
		}
	}
	var none T
	for _, i := range []int{-1, len(want)} {
		if v, e := d.At(i); v != none || e != api.ErrRange {
			t.Fatalf("At(%d) of %d = %v, %v", i, len(want), v, e)
		}
	}
	at := 0
	for i, v := range d.All() {
		if i != at || at >= len(want) || v != want[at] {
			t.Fatalf("All tells %d, %v; want the value at %d of %v", i, v, at, want)
		}
		at++
	}
	if at != len(want) {
		t.Fatalf("All ends after %d of %d", at, len(want))
	}
	for i, v := range d.Back() {
		at--
		if i != at || v != want[at] {
			t.Fatalf("Back tells %d, %v; want the value at %d of %v", i, v, at, want)
		}
	}
	if at != 0 {
		t.Fatalf("Back ends %d values too early", at)
	}
}

func (x *tried) push(v int) {
	x.t.Helper()
	if e := x.Push(v); e != x.m.insert(len(x.m), v) {
		x.t.Fatalf("Push(%d) = %v", v, e)
	}
	x.check()
}

func (x *tried) unshift(v int) {
	x.t.Helper()
	if e := x.Unshift(v); e != x.m.insert(0, v) {
		x.t.Fatalf("Unshift(%d) = %v", v, e)
	}
	x.check()
}

func (x *tried) pop() {
	x.t.Helper()
	v, ok := x.Pop()
	if want, e := x.m.remove(len(x.m) - 1); v != want || ok != (e == api.OK) {
		x.t.Fatalf("Pop = %d, %t; want %d, %v", v, ok, want, e)
	}
	x.check()
}

func (x *tried) shift() {
	x.t.Helper()
	v, ok := x.Shift()
	if want, e := x.m.remove(0); v != want || ok != (e == api.OK) {
		x.t.Fatalf("Shift = %d, %t; want %d, %v", v, ok, want, e)
	}
	x.check()
}

func (x *tried) set(i, v int) {
	x.t.Helper()
	if e, want := x.Set(i, v), x.m.set(i, v); e != want {
		x.t.Fatalf("Set(%d, %d) = %v; want %v", i, v, e, want)
	}
	x.check()
}

func (x *tried) insert(i, v int) {
	x.t.Helper()
	if e, want := x.Insert(i, v), x.m.insert(i, v); e != want {
		x.t.Fatalf("Insert(%d, %d) = %v; want %v", i, v, e, want)
	}
	x.check()
}

func (x *tried) remove(i int) {
	x.t.Helper()
	v, e := x.Remove(i)
	if w, want := x.m.remove(i); v != w || e != want {
		x.t.Fatalf("Remove(%d) = %d, %v; want %d, %v", i, v, e, w, want)
	}
	x.check()
}

func (x *tried) trim(from, to int) {
	x.t.Helper()
	if e, want := x.Trim(from, to), x.m.trim(from, to); e != want {
		x.t.Fatalf("Trim(%d, %d) = %v; want %v", from, to, e, want)
	}
	x.check()
}

// sorts is how many sorts of calls there are.
const sorts = 8

// call does one call of a sort with a value; i is its place, if it has one.
func (x *tried) call(sort, i, v int) {
	x.t.Helper()
	switch sort {
	case 0:
		x.push(v)
	case 1:
		x.unshift(v)
	case 2:
		x.pop()
	case 3:
		x.shift()
	case 4:
		x.set(i, v)
	case 5:
		x.insert(i, v)
	case 6:
		x.remove(i)
	default:
		x.trim(min(i, 1), len(x.m)-max(0, i-1))
	}
}

// maker makes calls of all sorts, the same ones at each run.
type maker struct{ *rand.Rand }

func newMaker(seed uint64) maker { return maker{rand.New(rand.NewPCG(seed, 6))} }

// anyCall does one call of any sort; of so many hundred calls that put in or take out, more put in the greater puts is.
func (x *tried) anyCall(m maker, puts int) {
	x.t.Helper()
	n := len(x.m)
	if m.IntN(40) == 0 {
		x.trim(m.IntN(n+2)-1, n-m.IntN(4)+1)
		return
	}
	if m.IntN(10) == 0 {
		x.set(m.IntN(n+2)-1, m.Int())
		return
	}
	place := m.IntN(n+3) - 1
	if m.IntN(100) < puts {
		switch m.IntN(3) {
		case 0:
			x.push(m.Int())
		case 1:
			x.unshift(m.Int())
		default:
			x.insert(place, m.Int())
		}
		return
	}
	switch m.IntN(3) {
	case 0:
		x.pop()
	case 1:
		x.shift()
	default:
		x.remove(place)
	}
}
