package table_test

import (
	"hash/fnv"
	"math"
	"slices"
	"strings"
	"testing"
	"unsafe"

	"millpond/table"
)

// The words: a key's hash, where keys stand

func TestHashOfTheExamples(t *testing.T) {
	for key, want := range map[string]uint64{
		"":                                      14695981039346656037,
		"a":                                     0xaf63dc4c8601ec8c,
		"foobar":                                0x85944171f73967e8,
		"\x00":                                  0xaf63bd4c8601b7df,
		"chongo was here!\n":                    0x46810940eff5f915,
		"\xff\x00\x80\x7f":                      modelHash(0, "\xff\x00\x80\x7f"),
		strings.Repeat("long \xe4 and more", 9): modelHash(0, strings.Repeat("long \xe4 and more", 9)),
	} {
		if h := table.Hash(0, key); h != want {
			t.Errorf("Hash(0, %q) = %d; want %d", key, h, want)
		}
		std := fnv.New64a()
		std.Write([]byte(key))
		if std.Sum64() != want {
			t.Errorf("of %q the library tells %d", key, std.Sum64())
		}
	}
}

func TestHashOfSeeds(t *testing.T) {
	for _, seed := range []uint64{0, 1, 2, 255, 256, 1 << 32, 1 << 63, math.MaxUint64, 14695981039346656037} {
		for _, key := range []string{"", "a", "b", "ab", "ba", "\x80", "\xff\xff", "\u00e9", "key:17", strings.Repeat("x", 300)} {
			if h, want := table.Hash(seed, key), modelHash(seed, key); h != want {
				t.Errorf("Hash(%d, %q) = %d; want %d", seed, key, h, want)
			}
		}
	}
	if h := table.Hash(14695981039346656037, ""); h != 0 {
		t.Errorf("a seed that meets the beginning: %d", h)
	}
}

func TestHashOfEachByte(t *testing.T) {
	for c := range 256 {
		key := string([]byte{byte(c), 'a', byte(c)})
		if h, want := table.Hash(7, key), modelHash(7, key); h != want {
			t.Errorf("Hash(7, %q) = %d; want %d", key, h, want)
		}
	}
}

// keysIn are some keys that all stand in one bucket among so many.
func keysIn(seed uint64, bucket, among, n int) []string {
	var l []string
	for i := 0; len(l) < n; i++ {
		if key := keyOf(i); int(modelHash(seed, key)%uint64(among)) == bucket {
			l = append(l, key)
		}
	}
	return l
}

func checkKeys[V any](t *testing.T, x *table.Table[V], want ...string) {
	t.Helper()
	var l []string
	for key := range x.All() {
		l = append(l, key)
	}
	if !slices.Equal(l, want) {
		t.Fatalf("the keys are %q; want %q", l, want)
	}
}

func TestWhereKeysStand(t *testing.T) {
	const seed = 3
	a, b := keysIn(seed, 1, 8, 3), keysIn(seed, 5, 8, 3) // all in bucket 1 of 4
	last := keysIn(seed, 3, 4, 2)
	x := table.New[int](seed)
	for _, key := range []string{last[0], b[0], a[0], b[1], a[1]} {
		x.Put(key, 0)
	}
	checkSizes(t, x, 4, 8, 0)
	checkKeys(t, x, b[0], a[0], b[1], a[1], last[0]) // behind each other, bucket by bucket
	x.Put(a[2], 0)                                   // bucket 0 is moved; the new key stands in the second row, ahead of those that will come there
	checkSizes(t, x, 4, 8, 1)
	checkKeys(t, x, b[0], a[0], b[1], a[1], last[0], a[2])
	x.Put(last[1], 0) // bucket 1 is moved: its keys go behind, in their order
	checkSizes(t, x, 4, 8, 2)
	third := []string{a[2], a[0], a[1]}
	want := append(slices.Clone(third), b[0], b[1])
	if int(modelHash(seed, last[1])%8) == 3 {
		want = append(slices.Clone(third), last[1], b[0], b[1])
	} else {
		want = append(want, last[1])
	}
	checkKeys(t, x, append([]string{last[0]}, want...)...)
}

// P5.1

func TestTheFifthKeyMakesItGrow(t *testing.T) {
	x := table.New[string](0)
	checkSizes(t, x, 4, 0, 0)
	for i, key := range []string{"a", "b", "c", "d"} {
		if x.Put(key, key) || x.Len() != i+1 {
			t.Fatalf("Put(%q): it was there, or %d keys are", key, x.Len())
		}
		checkSizes(t, x, 4, 0, 0)
	}
	for range 3 {
		if !x.Put("d", "D") {
			t.Fatal("Put of a key that is there: it was not")
		}
		checkSizes(t, x, 4, 0, 0)
	}
	x.Put("e", "e")
	checkSizes(t, x, 4, 8, 0)
	for i := range 3 {
		if !x.Step() {
			t.Fatal("Step: it does not move")
		}
		checkSizes(t, x, 4, 8, i+1)
	}
	if x.Step() {
		t.Fatal("Step of the last bucket: it moves still")
	}
	checkSizes(t, x, 8, 0, 0)
	if x.Step() {
		t.Fatal("Step of a table that does not move: it moves")
	}
	checkSizes(t, x, 8, 0, 0)
}

// moving is a table of five keys that moves from 4 to 8 buckets.
func moving(t *testing.T, seed uint64) *tried {
	t.Helper()
	x := newTried(t, seed)
	x.fill(0, 5)
	checkSizes(t, x.Table, 4, 8, 0)
	return x
}

func TestEachCallMovesABucketButLook(t *testing.T) {
	for _, c := range []struct {
		name  string
		call  func(x *tried)
		moved int
	}{
		{"Put of a new key", func(x *tried) { x.put("new", 1) }, 1},
		{"Put of a key that is there", func(x *tried) { x.put(keyOf(1), 9) }, 1},
		{"Get", func(x *tried) { x.get(keyOf(1)) }, 1},
		{"Get of no key", func(x *tried) { x.get("none") }, 1},
		{"Del", func(x *tried) { x.del(keyOf(1)) }, 1},
		{"Del of no key", func(x *tried) { x.del("none") }, 1},
		{"Step", func(x *tried) { x.step() }, 1},
		{"Look", func(x *tried) { x.look(keyOf(1)) }, 0},
		{"Look of no key", func(x *tried) { x.look("none") }, 0},
		{"Pick", func(x *tried) { x.pick(1) }, 0},
		{"All, Len, Sizes", func(x *tried) { x.check() }, 0},
		{"Map", func(x *tried) { table.Map(x.Table, func(string, int) int { return 0 }) }, 0},
	} {
		x := moving(t, 1)
		c.call(x)
		if _, _, moved := x.Sizes(); moved != c.moved {
			t.Errorf("%s moved %d buckets", c.name, moved)
		}
		x.check()
	}
}

func TestAKeyPutTwice(t *testing.T) {
	for seed := range uint64(20) {
		x := newTried(t, seed)
		x.fill(0, 4)
		for i := range 4 { // it does not move
			x.put(keyOf(i), -i)
			x.look(keyOf(i))
		}
		x.fill(4, 5)
		for i := range 9 { // it moves, and then it does not any more: the keys stay where they stand
			x.put(keyOf(i%5), 100+i)
			for k := range 6 {
				x.look(keyOf(k))
			}
		}
		if x.Len() != 5 {
			t.Fatalf("five keys put twice are %d", x.Len())
		}
	}
}

// A key that is met while its bucket was not moved yet, and behind that; and one that is not there.
func TestKeysInBucketsMovedAndNotMoved(t *testing.T) {
	for seed := range uint64(20) {
		for moved := range 4 {
			for _, key := range []string{keyOf(0), keyOf(1), keyOf(2), keyOf(3), keyOf(4), keyOf(5)} {
				for _, call := range []func(x *tried){
					func(x *tried) { x.look(key) },
					func(x *tried) { x.get(key) },
					func(x *tried) { x.del(key); x.look(key); x.del(key); x.put(key, 8) },
					func(x *tried) { x.put(key, 7); x.look(key); x.put(key, 8); x.get(key) },
				} {
					x := moving(t, seed)
					for range moved {
						x.step()
					}
					call(x)
					x.settle()
					call(x)
				}
			}
		}
	}
}

func TestGrowing(t *testing.T) {
	x := newTried(t, 2)
	for i := range 130 {
		n, second, _ := x.Sizes()
		full := second == 0 && x.Len() == n
		x.fill(i, i+1)
		if grows, next, moved := x.Sizes(); full && (grows != n || next != 2*n || moved != 0) {
			t.Fatalf("behind %d keys: Sizes = %d, %d, %d", x.Len(), grows, next, moved)
		}
	}
	x.settle()
	checkSizes(t, x.Table, 256, 0, 0)
}

// settled is a table of so many buckets that does not move, with so many keys.
func settled(t *testing.T, buckets, keys int) *tried {
	t.Helper()
	x := newTried(t, 4)
	x.fill(0, buckets/2+1)
	x.settle()
	x.empty(keys, buckets/2+1)
	x.fill(buckets/2+1, keys)
	checkSizes(t, x.Table, buckets, 0, 0)
	return x
}

func TestShrinking(t *testing.T) {
	for _, buckets := range []int{8, 16, 32, 64} {
		x := settled(t, buckets, buckets/8) // an eighth is not fewer than an eighth
		x.del("none")
		checkSizes(t, x.Table, buckets, 0, 0)
		x.put(keyOf(0), 9)
		x.get(keyOf(0))
		x.step()
		checkSizes(t, x.Table, buckets, 0, 0)
		x.del(keyOf(0))
		checkSizes(t, x.Table, buckets, buckets/2, 0)
		for i := range buckets - 1 {
			x.step()
			checkSizes(t, x.Table, buckets, buckets/2, i+1)
		}
		x.step()
		checkSizes(t, x.Table, buckets/2, 0, 0)
	}
}

func TestNoFewerThanFourBuckets(t *testing.T) {
	x := newTried(t, 0)
	x.fill(0, 2)
	x.empty(0, 2)
	checkSizes(t, x.Table, 4, 0, 0)
	x = settled(t, 8, 1)
	x.del(keyOf(0))
	x.settle()
	checkSizes(t, x.Table, 4, 0, 0)
	x.put("a", 1)
	x.del("a")
	checkSizes(t, x.Table, 4, 0, 0)
}

// Only Del of a key that is there, in a table that does not move, makes it shrink.
func TestFewKeysDoNotShrinkItElsewhere(t *testing.T) {
	x := newTried(t, 0)
	x.fill(0, 17) // it moves to 32
	checkSizes(t, x.Table, 16, 32, 0)
	x.empty(2, 16)
	x.del(keyOf(0)) // two keys of sixteen buckets, while it moves
	checkSizes(t, x.Table, 16, 32, 15)
	x.step()
	checkSizes(t, x.Table, 32, 0, 0)
	for range 3 {
		x.del("none")
		x.get(keyOf(1))
		x.put(keyOf(1), 2)
		x.step()
		checkSizes(t, x.Table, 32, 0, 0)
	}
	x.del(keyOf(1))
	checkSizes(t, x.Table, 32, 16, 0)
}

func TestItMovesAgainAsSoonAsItWasMoved(t *testing.T) {
	for _, last := range []func(x *tried){
		func(x *tried) { x.step() },
		func(x *tried) { x.get(keyOf(100)) },
		func(x *tried) { x.get("none") },
		func(x *tried) { x.put(keyOf(100), 1) },
		func(x *tried) { x.put("new", 1) },
		func(x *tried) { x.del(keyOf(100)) },
		func(x *tried) { x.del("none") },
	} {
		x := settled(t, 16, 2)
		x.del(keyOf(0)) // one key is left, it moves to 8
		checkSizes(t, x.Table, 16, 8, 0)
		x.fill(100, 115)
		checkSizes(t, x.Table, 16, 8, 15)
		last(x) // sixteen keys in eight buckets
		checkSizes(t, x.Table, 8, 16, 0)
		x.settle()
	}
}

// As many keys as buckets, when it was moved, are not more than there are.
func TestItDoesNotMoveAgainWithoutNeed(t *testing.T) {
	x := settled(t, 16, 2)
	x.del(keyOf(0))
	x.fill(100, 107)
	checkSizes(t, x.Table, 16, 8, 7)
	x.settle()
	checkSizes(t, x.Table, 8, 0, 0)
	if x.Len() != 8 {
		t.Fatalf("%d keys", x.Len())
	}
	x.put("one more", 1)
	checkSizes(t, x.Table, 8, 16, 0)
}

func TestDelTakesOneOutOfABucket(t *testing.T) {
	l := keysIn(0, 2, 16, 4)
	for gone := range l {
		x := newTried(t, 0)
		for i, key := range l {
			x.put(key, i)
		}
		x.del(l[gone])
		x.del(l[gone])
		x.put(l[gone], 9) // it stands behind the others now
		checkKeys(t, x.Table, append(slices.Delete(slices.Clone(l), gone, gone+1), l[gone])...)
	}
}

// All rows of five calls, at tables that have much to do.
func TestAllShortRowsOfCalls(t *testing.T) {
	calls := []func(x *tried){
		func(x *tried) { x.put(keyOf(1), 50) },
		func(x *tried) { x.put("new", 51) },
		func(x *tried) { x.del(keyOf(1)) },
		func(x *tried) { x.del(keyOf(2)) },
		func(x *tried) { x.get(keyOf(3)) },
	}
	for row := range 5 * 5 * 5 * 5 * 5 {
		x := newTried(t, uint64(row))
		x.fill(0, 4)
		for ; row > 0; row /= 5 {
			calls[row%5](x)
		}
		x.settle()
	}
}

func TestRowsOfMixedCalls(t *testing.T) {
	m := newMaker(51)
	for i := range 60 {
		x := newTried(t, m.Uint64())
		keys := 1 + m.IntN(120)
		for range 4 { // there and back: it grows and shrinks some times
			for range keys * 2 {
				x.anyCall(m, keys, 10+i%5)
			}
			for range keys * 3 {
				x.anyCall(m, keys, 0)
			}
			if m.IntN(2) == 0 {
				x.empty(0, keys)
			}
		}
	}
}

// P5.2

func TestPickAtDraws(t *testing.T) {
	x := newTried(t, 6)
	for _, draw := range []uint64{0, 1, math.MaxUint64} {
		x.pick(draw)
	}
	for i := range 40 {
		x.fill(i, i+1)
		n := uint64(i + 1)
		for draw := range 2*n + 2 {
			x.pick(draw)
		}
		for _, draw := range []uint64{1 << 31, 1 << 32, 1<<63 - 1, 1 << 63, math.MaxUint64 - 1, math.MaxUint64, math.MaxUint64 / n * n, math.MaxUint64/n*n - 1} {
			x.pick(draw)
		}
	}
}

func TestAllMayBeLeftAtAnyPlace(t *testing.T) {
	for moved := range 5 {
		x := moving(t, 8)
		for range moved {
			x.step()
		}
		all := x.m.all()
		for n := 1; n <= len(all); n++ {
			var l []item
			for key, v := range x.All() {
				l = append(l, item{key, v})
				if len(l) == n {
					break
				}
			}
			if !slices.Equal(l, all[:n]) {
				t.Fatalf("the first %d are %v; want %v", n, l, all[:n])
			}
		}
		x.check()
	}
}

// meanwhile are calls of a table that is being ranged over.
func meanwhile() []func(x *tried) {
	return []func(x *tried){
		func(x *tried) { x.step() },
		func(x *tried) { x.empty(0, 30) },
		func(x *tried) { x.fill(10, 40) },
		func(x *tried) { x.settle() },
		func(x *tried) { x.empty(0, 40); x.fill(20, 22) },
		func(x *tried) {
			for i := range 40 {
				x.put(keyOf(i), -1)
				x.get(keyOf(i))
			}
		},
	}
}

func TestAllWithCallsMeanwhile(t *testing.T) {
	for _, keys := range []int{1, 4, 5, 7, 17, 30} {
		for i, call := range meanwhile() {
			x := newTried(t, 9)
			x.fill(0, keys)
			want := x.m.all()
			var l []item
			for key, v := range x.All() {
				l = append(l, item{key, v})
				call(x)
			}
			if !slices.Equal(l, want) {
				t.Fatalf("of %d keys, with calls %d meanwhile, All = %v; want %v", keys, i, l, want)
			}
			x.check()
		}
	}
}

// What is told is what there is when the loop begins: not when All was called, nor when another loop began.
func TestAllTellsWhatThereIsWhenItBegins(t *testing.T) {
	x := newTried(t, 10)
	all := x.All()
	x.fill(0, 6)
	for want := range 3 {
		n := 0
		for key, v := range all {
			n++
			if got, ok := x.Look(key); !ok || got != v {
				t.Fatalf("All tells %q, %d; Look %d, %t", key, v, got, ok)
			}
		}
		if n != 6-want {
			t.Fatalf("%d keys are told", n)
		}
		x.del(keyOf(want))
	}
	inner := 0
	for range all {
		x.del(keyOf(5))
		for range all {
			inner++
		}
	}
	if inner != 3*2 {
		t.Fatalf("loops within the loop tell %d", inner)
	}
}

// P5.3

type mapped struct {
	key   string
	value int
	n     int
}

// checkMap: f is called with each, in the order of All, and the table of what it answers has the keys in the same places, then and behind other calls.
func checkMap(t *testing.T, x *tried, m maker) {
	t.Helper()
	var called []item
	y := table.Map(x.Table, func(key string, v int) mapped {
		called = append(called, item{key, v})
		return mapped{key, v, len(called)}
	})
	all := x.m.all()
	if !slices.Equal(called, all) {
		t.Fatalf("f is called with %v; want %v", called, all)
	}
	n := 0
	for key, v := range y.All() {
		if (mapped{key, all[n].value, n + 1}) != v || key != all[n].key {
			t.Fatalf("%q has the value %v; want %v", key, v, all[n])
		}
		n++
	}
	if n != len(all) || y.Len() != n {
		t.Fatalf("%d of %d are told, Len = %d", n, len(all), y.Len())
	}
	checkAlike(t, x, y)
	for range 60 { // one goes on as the other does
		key := m.key(40)
		switch m.IntN(3) {
		case 0:
			x.put(key, 1)
			y.Put(key, mapped{})
		case 1:
			x.del(key)
			y.Del(key)
		default:
			x.step()
			y.Step()
		}
		checkAlike(t, x, y)
	}
}

func checkAlike[V any](t *testing.T, x *tried, y *table.Table[V]) {
	t.Helper()
	checkSizes(t, y, x.m.first, x.m.second, x.m.moved)
	var keys []string
	for _, i := range x.m.all() {
		keys = append(keys, i.key)
	}
	checkKeys(t, y, keys...)
}

func TestMap(t *testing.T) {
	m := newMaker(52)
	for keys := range 40 {
		x := newTried(t, m.Uint64())
		x.fill(0, keys)
		for range 3 {
			checkMap(t, x, m)
		}
	}
	for range 8 { // while it shrinks
		x := settled(t, 32, 4)
		x.del(keyOf(m.IntN(4)))
		x.fill(50, 50+m.IntN(31))
		checkMap(t, x, m)
	}
}

func TestMapOfNothing(t *testing.T) {
	none := func(string, int) int { t.Error("f is called"); return 0 }
	y := table.Map(table.New[int](3), none)
	checkSizes(t, y, 4, 0, 0)
	checkKeys(t, y)
	for _, x := range []*table.Table[int]{nil, {}, table.New[int](0), moving(t, 0).Table} {
		if table.Map[int, string](x, nil) != nil {
			t.Error("without f there is a table")
		}
	}
	for _, x := range []*table.Table[int]{nil, {}} {
		if table.Map(x, none) != nil {
			t.Error("of no table there is one")
		}
	}
}

func TestMapMakesATableOfItsOwn(t *testing.T) {
	x := moving(t, 11)
	y := &tried{t, table.Map(x.Table, func(_ string, v int) int { return v }), newModel(11)}
	y.m.keys, y.m.second = slices.Clone(x.m.keys), 8
	y.put(keyOf(1), 70)
	y.del(keyOf(2))
	y.fill(10, 30)
	x.check()
	x.empty(0, 4)
	y.check()
}

// f may call the table: what it does there plays no part.
func TestMapWithCallsMeanwhile(t *testing.T) {
	for _, keys := range []int{1, 4, 5, 7, 17, 30} {
		for i, call := range meanwhile() {
			x := newTried(t, 12)
			x.fill(0, keys)
			before := *x.m
			before.keys = slices.Clone(x.m.keys)
			y := table.Map(x.Table, func(_ string, v int) int {
				call(x)
				return v
			})
			if l := itemsOf(y); !slices.Equal(l, before.all()) || y.Len() != len(l) {
				t.Fatalf("of %d keys, with calls %d meanwhile, Map = %v; want %v", keys, i, l, before.all())
			}
			checkSizes(t, y, before.first, before.second, before.moved)
		}
	}
}

func TestMapOfAnFThatPanics(t *testing.T) {
	x := moving(t, 13)
	for at := range 5 {
		called := 0
		y := table.Map(x.Table, func(string, int) int {
			called++
			if called > at {
				panic("no value")
			}
			return 0
		})
		if y != nil || called != at+1 {
			t.Fatalf("there is a table, or f is called %d times", called)
		}
		x.check()
	}
	x.fill(5, 20)
}

// P5.4

func TestATableIsAMap(t *testing.T) {
	m := newMaker(54)
	for range 20 {
		x, want := table.New[int](m.Uint64()), map[string]int{}
		keys := 1 + m.IntN(3000)
		for i := range 12000 {
			key := m.key(keys)
			_, there := want[key]
			if growing := i/3000%2 == 0; m.IntN(4) == 0 == growing {
				if x.Del(key) != there {
					t.Fatalf("Del(%q) = %t", key, !there)
				}
				delete(want, key)
			} else {
				if x.Put(key, i) != there {
					t.Fatalf("Put(%q) = %t", key, !there)
				}
				want[key] = i
			}
			key = m.key(keys)
			v, ok := x.Get(key)
			if w, is := want[key]; v != w || ok != is || x.Len() != len(want) {
				t.Fatalf("Get(%q) = %d, %t; want %d, %t", key, v, ok, w, is)
			}
		}
		n := 0
		for key, v := range x.All() {
			n++
			if w, ok := want[key]; !ok || v != w {
				t.Fatalf("All tells %q, %d; want %d, %t", key, v, w, ok)
			}
		}
		if n != len(want) {
			t.Fatalf("All tells %d of %d", n, len(want))
		}
	}
}

func TestKeysOfAllBytes(t *testing.T) {
	x := newTried(t, 14)
	for c := range 256 {
		key := string([]byte{byte(c)})
		x.put(key, c)
		x.look(key)
	}
	for _, key := range []string{"\x00\x00", "", strings.Repeat("k", 1<<17), strings.Repeat("k", 1<<17) + "l"} {
		x.put(key, 1)
		x.get(key)
		x.get(key + "\x00")
	}
}

// P5.5

// checkBitByBit: powers of two, 4 at least; at most one bucket is moved by a call.
func checkBitByBit(t *testing.T, x *table.Table[int], before [3]int) [3]int {
	t.Helper()
	first, second, moved := x.Sizes()
	for _, n := range []int{first, second} {
		if n&(n-1) != 0 || n < 4 && (n != 0 || first == 0) {
			t.Fatalf("Sizes = %d, %d, %d", first, second, moved)
		}
	}
	if second == 0 && (moved != 0 || x.Len() > first) {
		t.Fatalf("it does not move: Sizes = %d, %d, %d, with %d keys", first, second, moved, x.Len())
	}
	if second != 0 && (second != 2*first && first != 2*second || moved >= first) {
		t.Fatalf("it moves: Sizes = %d, %d, %d", first, second, moved)
	}
	switch {
	case first == before[0] && second == before[1] && (moved == before[2] || moved == before[2]+1):
	case first == before[0] && before[1] == 0 && moved == 0: // it begins to move
	case first == before[1] && before[2] == before[0]-1 && moved == 0: // it was moved
	default:
		t.Fatalf("Sizes = %d, %d, %d; before %d", first, second, moved, before)
	}
	return [3]int{first, second, moved}
}

func TestItMovesBitByBit(t *testing.T) {
	m := newMaker(55)
	for range 20 {
		x, before := table.New[int](m.Uint64()), [3]int{4, 0, 0}
		keys := 1 + m.IntN(2000)
		for i := range 12000 {
			switch growing := i/3000%2 == 0; {
			case m.IntN(5) == 0:
				x.Step()
			case m.IntN(5) == 0 == growing:
				x.Del(m.key(keys))
			default:
				x.Put(m.key(keys), i)
			}
			before = checkBitByBit(t, x, before)
		}
	}
}

// P5.6

func TestValuesPlayNoPart(t *testing.T) {
	m := newMaker(56)
	for range 50 {
		seed := m.Uint64()
		x, y, z := newTried(t, seed), table.New[any](seed), table.New[[3]string](seed)
		keys := 1 + m.IntN(60)
		for range keys * 6 {
			key := m.key(keys)
			if m.IntN(3) == 0 {
				x.del(key)
				y.Del(key)
				z.Del(key)
			} else {
				x.put(key, m.Int())
				y.Put(key, nil)
				z.Put(key, [3]string{key})
			}
			checkAlike(t, x, y)
			checkAlike(t, x, z)
		}
	}
}

func TestSeedsMatter(t *testing.T) {
	rows := map[string]bool{}
	for seed := range uint64(8) {
		x := newTried(t, seed)
		x.fill(0, 12)
		keys := ""
		for key := range x.All() {
			keys += key + " "
		}
		rows[keys] = true
	}
	if len(rows) < 4 {
		t.Errorf("eight seeds tell %d rows", len(rows))
	}
}

// Rule 3: a table that is nil, or that no call made

func checkNoTable[V comparable](t *testing.T, x *table.Table[V], v V) {
	t.Helper()
	var zero V
	for range 2 {
		if x.Put("a", v) || x.Del("a") || x.Step() || x.Len() != 0 {
			t.Fatal("something is told of no table")
		}
		if got, ok := x.Get("a"); ok || got != zero {
			t.Fatalf("Get of no table: %v, %t", got, ok)
		}
		if got, ok := x.Look("a"); ok || got != zero {
			t.Fatalf("Look of no table: %v, %t", got, ok)
		}
		for _, draw := range []uint64{0, 1, math.MaxUint64} {
			if key, got, ok := x.Pick(draw); ok || key != "" || got != zero {
				t.Fatalf("Pick of no table: %q, %v, %t", key, got, ok)
			}
		}
		checkSizes(t, x, 0, 0, 0)
		checkKeys(t, x)
		if table.Map(x, func(string, V) int { return 1 }) != nil || table.Map[V, int](x, nil) != nil {
			t.Fatal("Map of no table is one")
		}
	}
}

func TestTablesThatAreNone(t *testing.T) {
	checkNoTable(t, nil, 1)
	checkNoTable(t, &table.Table[int]{}, 1)
	checkNoTable(t, nil, "text")
	checkNoTable(t, new(table.Table[string]), "text")
	checkNoTable[any](t, nil, 1)
	checkNoTable[any](t, new(table.Table[any]), "text")
	checkNoTable(t, new(table.Table[[2]int]), [2]int{1})
}

// A copy would share its buckets with the table: no call made it.
func TestACopyIsNoTable(t *testing.T) {
	x := moving(t, 15)
	copied := *x.Table
	checkNoTable(t, &copied, 1)
	x.check()
	x.fill(5, 20)
}

// Rule 4: new memory

func TestKeysAreNeitherKeptNorShared(t *testing.T) {
	given := strings.Repeat("a key that stands in memory of its own ", 2)
	told := map[*byte]bool{unsafe.StringData(given): true}
	check := func(name, key string) {
		if key != given {
			t.Errorf("%s tells %q", name, key)
		}
		if told[unsafe.StringData(key)] {
			t.Errorf("%s shares memory", name)
		}
		told[unsafe.StringData(key)] = true
	}
	x := table.New[int](0)
	x.Put(given, 1)
	y := table.Map(x, func(key string, _ int) int {
		check("Map", key)
		return 0
	})
	for range 2 {
		for _, from := range []*table.Table[int]{x, y} {
			for key := range from.All() {
				check("All", key)
			}
			key, _, _ := from.Pick(0)
			check("Pick", key)
		}
	}
}

func TestWhatIsHandedInIsNotKept(t *testing.T) {
	memory := []byte("key")
	x := table.New[int](0)
	x.Put(unsafe.String(&memory[0], len(memory)), 1)
	copy(memory, "yek")
	if _, ok := x.Look("key"); !ok {
		t.Error("the key went with the memory it was handed in with")
	}
	checkKeys(t, x, "key")
}

func TestValuesAreToldAsTheyWerePut(t *testing.T) {
	x := table.New[*int](0)
	n := 7
	x.Put("a", &n)
	x.Put("b", nil)
	if p, ok := x.Get("a"); p != &n || !ok {
		t.Error("a pointer is another one")
	}
	if p, ok := x.Look("b"); p != nil || !ok {
		t.Error("no pointer is one, or the key is not there")
	}
	y := table.New[error](0)
	y.Put("a", nil)
	if e, ok := y.Get("a"); e != nil || !ok {
		t.Errorf("Get of nil: %v, %t", e, ok)
	}
	if !y.Put("a", nil) {
		t.Error("a key with nil is not there")
	}
}

func TestTablesApart(t *testing.T) {
	x, y := newTried(t, 1), newTried(t, 1)
	x.fill(0, 20)
	y.check()
	y.fill(5, 9)
	x.empty(0, 20)
	y.check()
}

// Great tables take no time that grows with the square of their keys.
func TestAGreatTable(t *testing.T) {
	const n = 1 << 17
	x := table.New[int](16)
	for i := range n {
		x.Put(keyOf(i), i)
	}
	for i := range n {
		if v, ok := x.Get(keyOf(i)); v != i || !ok {
			t.Fatalf("Get(%q) = %d, %t", keyOf(i), v, ok)
		}
	}
	y := table.Map(x, func(_ string, v int) int { return -v })
	sum := 0
	for _, v := range y.All() {
		sum += v
	}
	if sum != -n*(n-1)/2 {
		t.Fatalf("the sum is %d", sum)
	}
	for i := range n {
		if !x.Del(keyOf(i)) {
			t.Fatalf("Del(%q)", keyOf(i))
		}
	}
	for x.Step() {
	}
	if first, _, _ := x.Sizes(); x.Len() != 0 || first > n {
		t.Fatalf("%d keys, %d buckets", x.Len(), first)
	}
}
