package deque

// fewest is how many slots a ring gets at least, when it grows.
const fewest = 4

// ring is slots of which the first one stands behind the last one again.
type ring[T any] struct {
	slots []T // those without a value hold the zero value, so that nothing is kept that was taken out
	first int // the slot of the first value
	count int // how many values there are
}

// end is an end of a ring. Places are counted from it inwards: what the two ends do is the same then.
type end[T any] struct {
	slot func(place int) *T
	move func(by int) // by so many slots outwards
}

// slot is that of a place.
func (r *ring[T]) slot(place int) *T { return &r.slots[r.around(r.first+place)] }

// around is the slot of a number that may be ahead of the slots or behind them, by less than a turn.
func (r *ring[T]) around(i int) int { return (i + len(r.slots)) % len(r.slots) }

func (r *ring[T]) front() end[T] {
	return end[T]{
		slot: func(place int) *T { return r.slot(place) },
		move: func(by int) {
			r.first = r.around(r.first - by)
			r.count += by
		},
	}
}

func (r *ring[T]) back() end[T] {
	return end[T]{
		slot: func(place int) *T { return r.slot(r.count - 1 - place) },
		move: func(by int) { r.count += by },
	}
}

// nearer is the end that has fewer values ahead of a place than the other one, and how many these are.
func (r *ring[T]) nearer(front, back int) (end[T], int) {
	if front < back {
		return r.front(), front
	}
	return r.back(), back
}

// insert puts a value ahead of the one at a place.
func (r *ring[T]) insert(i int, v T) {
	if r.count == len(r.slots) {
		r.grow()
	}
	e, place := r.nearer(i, r.count-i)
	e.insert(place, v)
}

// remove takes the value at a place out.
func (r *ring[T]) remove(i int) T {
	e, place := r.nearer(i, r.count-1-i)
	return e.remove(place)
}

// grow makes twice as many slots; the values stand from the first one on.
func (r *ring[T]) grow() {
	slots := make([]T, max(fewest, 2*len(r.slots)))
	for i := range r.count {
		slots[i] = *r.slot(i)
	}
	r.slots, r.first = slots, 0
}

// insert puts a value at a place; those from the place to the end move outwards.
func (e end[T]) insert(place int, v T) {
	e.move(1)
	for i := range place {
		*e.slot(i) = *e.slot(i + 1)
	}
	*e.slot(place) = v
}

// remove takes the value at a place out; those from the place to the end move inwards.
func (e end[T]) remove(place int) T {
	v := *e.slot(place)
	for i := place; i > 0; i-- {
		*e.slot(i) = *e.slot(i - 1)
	}
	var none T
	*e.slot(0) = none
	e.move(-1)
	return v
}
