package table

import "strings"

// row is buckets side by side.
type row[V any] []bucket[V]

// bucket is keys that stand one behind the other.
type bucket[V any] []pair[V]

// pair is a key and its value.
type pair[V any] struct {
	key   string
	value V
}

// of is the bucket of a key's hash; the row must have one.
func (r row[V]) of(hash uint64) *bucket[V] { return &r[hash%uint64(len(r))] }

// find is the place of a key, below 0, if it is not there.
func (b bucket[V]) find(key string) int {
	for i := range b {
		if b[i].key == key {
			return i
		}
	}
	return -1
}

// bareRow is a row of the same keys in the same places, without their values.
func bareRow[W, V any](r row[V]) row[W] {
	keys := make(row[W], len(r))
	for i, b := range r {
		for j := range b {
			keys[i] = append(keys[i], pair[W]{key: strings.Clone(b[j].key)})
		}
	}
	return keys
}
