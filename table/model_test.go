package table_test

import (
	"math/big"
	"math/rand/v2"
	"slices"
	"strconv"
)

// modelHash is a key's hash by numbers without bound.
func modelHash(seed uint64, key string) uint64 {
	h, _ := new(big.Int).SetString("14695981039346656037", 10)
	h.Xor(h, new(big.Int).SetUint64(seed))
	times := big.NewInt(1099511628211)
	size := new(big.Int).Lsh(big.NewInt(1), 64)
	for _, c := range []byte(key) {
		h.Xor(h, big.NewInt(int64(c)))
		h.Mul(h, times)
		h.Mod(h, size)
	}
	return h.Uint64()
}

// item is a key and its value.
type item struct {
	key   string
	value int
}

// stood is a key, and in which row and which bucket of it it stands.
type stood struct {
	item
	second bool
	bucket int
}

// model is a table. It keeps all keys in one list; those of one bucket stand there in their order.
type model struct {
	seed   uint64
	keys   []stood
	first  int // how many buckets the first row has
	second int // and the second one, 0: it does not move
	moved  int
	hashes map[string]uint64
}

func newModel(seed uint64) *model {
	return &model{seed: seed, first: 4, hashes: map[string]uint64{}}
}

func (m *model) bucketOf(key string, among int) int {
	h, ok := m.hashes[key]
	if !ok {
		h = modelHash(m.seed, key)
		m.hashes[key] = h
	}
	return int(h % uint64(among))
}

func (m *model) find(key string) int {
	return slices.IndexFunc(m.keys, func(s stood) bool { return s.key == key })
}

// step moves a bucket, if it moves, and tells whether it moves still.
func (m *model) step() bool {
	if m.second == 0 {
		return false
	}
	var stay, away []stood
	for _, s := range m.keys {
		if !s.second && s.bucket == m.moved {
			away = append(away, stood{s.item, true, m.bucketOf(s.key, m.second)})
		} else {
			stay = append(stay, s)
		}
	}
	m.keys = append(stay, away...)
	m.moved++
	if m.moved < m.first {
		return true
	}
	for i := range m.keys {
		m.keys[i].second = false
	}
	m.first, m.second, m.moved = m.second, 0, 0
	if len(m.keys) > m.first {
		m.second = m.first * 2
	}
	return m.second > 0
}

func (m *model) put(key string, value int) bool {
	m.step()
	if i := m.find(key); i >= 0 {
		m.keys[i].value = value
		return true
	}
	if m.second > 0 {
		m.keys = append(m.keys, stood{item{key, value}, true, m.bucketOf(key, m.second)})
		return false
	}
	m.keys = append(m.keys, stood{item{key, value}, false, m.bucketOf(key, m.first)})
	if len(m.keys) > m.first {
		m.second = m.first * 2
	}
	return false
}

func (m *model) look(key string) (int, bool) {
	if i := m.find(key); i >= 0 {
		return m.keys[i].value, true
	}
	return 0, false
}

func (m *model) get(key string) (int, bool) {
	m.step()
	return m.look(key)
}

func (m *model) del(key string) bool {
	m.step()
	i := m.find(key)
	if i < 0 {
		return false
	}
	m.keys = slices.Delete(m.keys, i, i+1)
	if m.second == 0 && m.first > 4 && len(m.keys)*8 < m.first {
		m.second = m.first / 2
	}
	return true
}

// all are the keys row by row, bucket by bucket.
func (m *model) all() []item {
	l := slices.Clone(m.keys)
	slices.SortStableFunc(l, func(a, b stood) int {
		if a.second != b.second {
			if b.second {
				return -1
			}
			return 1
		}
		return a.bucket - b.bucket
	})
	var items []item
	for _, s := range l {
		items = append(items, s.item)
	}
	return items
}

// maker makes calls of all sorts, the same ones at each run.
type maker struct{ *rand.Rand }

func newMaker(seed uint64) maker { return maker{rand.New(rand.NewPCG(seed, 5))} }

// key is one of so many.
func (m maker) key(among int) string { return keyOf(m.IntN(among)) }

// keyOf is the key of a number; of 0 it is the empty one.
func keyOf(i int) string {
	if i == 0 {
		return ""
	}
	return "key:" + strconv.Itoa(i) + "\xff"
}
