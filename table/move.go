package table

import "iter"

// fewest is how many buckets a table has at least.
const fewest = 4

// isMade tells whether a call made the table.
func (t *Table[V]) isMade() bool { return t != nil && t.made == t }

// moves tells whether the table moves.
func (t *Table[V]) moves() bool { return len(t.second) > 0 }

// where is the bucket in which a key stands, and its place there; if it stands nowhere, the bucket of a new key, and a place below 0.
func (t *Table[V]) where(key string) (*bucket[V], int) {
	hash := Hash(t.seed, key)
	b := t.first.of(hash)
	i := b.find(key)
	if i < 0 && t.moves() {
		b = t.second.of(hash)
		i = b.find(key)
	}
	return b, i
}

// move moves a bucket, while the table moves.
func (t *Table[V]) move() {
	if !t.moves() {
		return
	}
	for _, p := range t.first[t.moved] {
		b := t.second.of(Hash(t.seed, p.key))
		*b = append(*b, p)
	}
	t.first[t.moved] = nil
	t.moved++
	if t.moved == len(t.first) {
		t.first, t.second, t.moved = t.second, nil, 0
		t.grow() // what shrank may have got many keys meanwhile
	}
}

// grow begins to move to twice as many buckets, if there are more keys than buckets.
func (t *Table[V]) grow() {
	if !t.moves() && t.count > len(t.first) {
		t.second = make(row[V], 2*len(t.first))
	}
}

// shrink begins to move to half as many buckets, if there are few keys.
func (t *Table[V]) shrink() {
	if !t.moves() && len(t.first) > fewest && 8*t.count < len(t.first) {
		t.second = make(row[V], len(t.first)/2)
	}
}

// buckets are all those of the first row, then those of the second one.
func (t *Table[V]) buckets() iter.Seq[bucket[V]] {
	return func(yield func(bucket[V]) bool) {
		for _, r := range [2]row[V]{t.first, t.second} {
			for _, b := range r {
				if !yield(b) {
					return
				}
			}
		}
	}
}

// pairs are all keys and values, in the order of All; there are none in a table that no call made.
func (t *Table[V]) pairs() []pair[V] {
	if !t.isMade() {
		return nil
	}
	all := make([]pair[V], 0, t.count)
	for b := range t.buckets() {
		all = append(all, b...)
	}
	return all
}

// bare is a table of the same keys in the same places, without their values.
func bare[W, V any](t *Table[V]) *Table[W] {
	m := New[W](t.seed)
	m.count, m.moved = t.count, t.moved
	m.first, m.second = bareRow[W](t.first), bareRow[W](t.second)
	return m
}

// fill gives the keys these values, in the order of All.
func (t *Table[V]) fill(values []V) {
	for b := range t.buckets() {
		for i := range b {
			b[i].value = values[i]
		}
		values = values[len(b):]
	}
}
