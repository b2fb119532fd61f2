package ring_test

import (
	"bytes"
	"math/rand/v2"
	"runtime"
	"slices"
	"strings"
	"sync"
	"testing"
	"unsafe"

	"millpond/api"
	"millpond/ring"
)

// Rule 4: nothing that is handed in is changed or kept, and answers are new memory

func TestFeedKeepsNothing(t *testing.T) {
	for _, size := range []int{1, 3, 8, 9, 20} {
		for _, n := range []int{1, 2, 8, 9, 20, 50} {
			r := made(t, size, 1)
			want := ""
			for range 5 {
				room := []byte(text(n + 4))
				b := room[2 : n+2]
				want += string(b)
				if e := r.Feed(b); e != api.OK {
					t.Fatalf("Feed = %v", e)
				}
				if string(room) != text(n+4) {
					t.Fatalf("size %d: what was handed in is %q now", size, room)
				}
				for i := range room {
					room[i] = '?'
				}
				holds(t, "what was handed in is written into", r, api.History{ID: 1, Offset: len(want)}, last(want, size))
			}
		}
	}
}

func TestFromIsNewMemory(t *testing.T) {
	for _, fed := range []int{1, 7, 8, 9, 16, 30} {
		r := made(t, 8, 1)
		feed(t, r, text(fed))
		there := last(text(fed), 8)
		for offset := fed - len(there); offset < fed; offset++ {
			a, _ := r.From(offset)
			b, _ := r.From(offset)
			a = a[:cap(a)]
			for i := range a {
				a[i] = '?'
			}
			if want := last(text(fed), fed-offset); string(b) != want {
				t.Fatalf("From(%d) = %q, want %q: another answer was written into", offset, b, want)
			}
			a = append(a[:0], "appended, and much more than there is room for"...)
			holds(t, "an answer was written into", r, api.History{ID: 1, Offset: fed}, there)
			before := string(b)
			feed(t, r, "")
			if string(b) != before || len(a) == 0 {
				t.Fatalf("an answer changed")
			}
		}
		b, _ := r.From(fed - len(there))
		feed(t, r, "zzzzzzzzzzzz")
		if string(b) != there {
			t.Fatalf("an answer is %q now, behind Feed", b)
		}
	}
}

// within is the memory of some bytes, all of their room.
func within(b []byte) (uintptr, uintptr) {
	from := uintptr(unsafe.Pointer(unsafe.SliceData(b)))
	return from, from + uintptr(cap(b))
}

func TestNoTwoAnswersShareMemory(t *testing.T) {
	r := made(t, 64, 1)
	fed := []byte(text(150))
	r.Feed(fed)
	l := [][]byte{fed}
	for offset := 86; offset < 150; offset += 9 {
		b, _ := r.From(offset)
		l = append(l, b)
		for most := 1; most < 70; most += 11 {
			for _, b := range r.Pieces(offset, most) {
				l = append(l, b)
			}
		}
	}
	slices.SortFunc(l, func(a, b []byte) int {
		x, _ := within(a)
		y, _ := within(b)
		return int(x) - int(y)
	})
	for i := range len(l) - 1 {
		_, end := within(l[i])
		if from, _ := within(l[i+1]); from < end {
			t.Fatalf("%q and %q lie in one place", l[i], l[i+1])
		}
	}
	runtime.KeepAlive(l)
}

func TestReadAndTextKeepNothing(t *testing.T) {
	room := []byte("00000000000000ff")
	s := unsafe.String(unsafe.SliceData(room), len(room))
	id, e := ring.Read(s)
	told := ring.Text(id)
	if id != 255 || e != api.OK || string(room) != "00000000000000ff" {
		t.Fatalf("Read = %d, %v, and %q", id, e, room)
	}
	copy(room, "1111")
	if told != "00000000000000ff" || unsafe.StringData(ring.Text(id)) == unsafe.StringData(ring.Text(id)) {
		t.Errorf("Text = %q, or two texts lie in one place", told)
	}
}

// Rule 3: a ring that is nil, or that no call made

// asksNothing asks all of a ring that nobody made.
func asksNothing(t *testing.T, name string, r *ring.Ring) {
	t.Helper()
	for _, b := range [][]byte{nil, {}, []byte("a"), []byte(text(100))} {
		if e := r.Feed(b); e != api.ErrNil {
			t.Errorf("%s: Feed = %v", name, e)
		}
	}
	for _, id := range []uint64{0, 1, mostID} {
		if e := r.Fork(id); e != api.ErrNil {
			t.Errorf("%s: Fork(%d) = %v", name, id, e)
		}
		for _, offset := range []int{least, -1, 0, 1, api.MaxOffset, greatest} {
			if e := r.Follow(id, offset); e != api.ErrNil {
				t.Errorf("%s: Follow(%d, %d) = %v", name, id, offset, e)
			}
			if r.Accepts(id, offset) {
				t.Errorf("%s: Accepts(%d, %d)", name, id, offset)
			}
			if b, e := r.From(offset); b != nil || e != api.ErrNil {
				t.Errorf("%s: From(%d) = %q, %v", name, offset, b, e)
			}
			for _, most := range []int{least, -1, 0, 1, greatest} {
				for at, b := range r.Pieces(offset, most) {
					t.Errorf("%s: Pieces(%d, %d) tell %d, %q", name, offset, most, at, b)
				}
			}
		}
	}
	if h := r.State(); h != (api.History{}) {
		t.Errorf("%s: State = %+v", name, h)
	}
	if first, end := r.Window(); first != 0 || end != 0 {
		t.Errorf("%s: Window = %d, %d", name, first, end)
	}
}

func TestARingThatNobodyMade(t *testing.T) {
	var zero ring.Ring
	for range 2 {
		asksNothing(t, "nil", nil)
		asksNothing(t, "&Ring{}", &ring.Ring{})
		asksNothing(t, "a zero value", &zero)
	}
}

// A copy of a ring would share its bytes: it is none that New made, and the ring stays as it is.
func TestACopyOfARing(t *testing.T) {
	r := made(t, 4, 1)
	feed(t, r, "abcdef")
	other := *r
	asksNothing(t, "a copy", &other)
	holds(t, "it was copied", r, api.History{ID: 1, Offset: 6}, "cdef")
}

// Rule 1: any arguments

func TestAnyArguments(t *testing.T) {
	t.Parallel()
	m := rand.New(rand.NewPCG(19, 1))
	offsets := edges(10, 40)
	for range 200 {
		r, e := ring.New(m.IntN(40)-3, m.Uint64N(3))
		if e != api.OK && r != nil {
			t.Fatal("a ring beside an error")
		}
		for range 200 {
			offset, most := offsets[m.IntN(len(offsets))], offsets[m.IntN(len(offsets))]
			id := m.Uint64N(4) - 1
			switch m.IntN(8) {
			case 0:
				r.Follow(id, offset)
			case 1:
				r.Fork(id)
			case 2:
				r.Accepts(id, offset)
			case 3:
				for at, b := range r.Pieces(offset, most) {
					if len(b) == 0 || at < offset {
						t.Fatalf("Pieces(%d, %d): %d, %q", offset, most, at, b)
					}
				}
			case 4:
				if b, e := r.From(offset); e != api.OK && b != nil {
					t.Fatalf("From(%d) = %q beside %v", offset, b, e)
				}
			case 5:
				ring.Read(stream(m, m.IntN(20)))
			default:
				r.Feed([]byte(stream(m, m.IntN(60))))
			}
			first, end := r.Window()
			if h := r.State(); first < 0 || first > end || h.Offset != end || end > api.MaxOffset || h.Fork > end {
				t.Fatalf("Window = %d, %d, State = %+v", first, end, h)
			}
		}
	}
}

// Rule 5: what is told hangs on what was given alone, also when many ask at once.
func TestManyAskAtOnce(t *testing.T) {
	t.Parallel()
	r := made(t, 100, 3)
	feed(t, r, text(330))
	fork(t, r, 4)
	feed(t, r, "behind")
	h := api.History{ID: 4, Offset: 336, Second: 3, Fork: 330}
	there := last(text(330)+"behind", 100)
	seq := r.Pieces(300, 5)
	var all sync.WaitGroup
	for range 8 {
		all.Go(func() {
			for range 50 {
				b, e := r.From(236)
				pieces := slices.Equal(list(seq), cut(there[64:], 300, 5))
				if string(b) != there || e != api.OK || !pieces || r.State() != h || !r.Accepts(3, 330) || ring.Text(h.ID) != "0000000000000004" {
					t.Error("another answer when many ask at once")
				}
			}
		})
	}
	all.Wait()
}

// Rings that were given the same are alike, however else they came to be.
func TestTheSameAgain(t *testing.T) {
	one, other := made(t, 9, 1), made(t, 9, 2)
	feed(t, other, text(50))
	fork(t, other, 8)
	for _, r := range []*ring.Ring{one, other} {
		follow(t, r, 5, 20)
		feed(t, r, "abcdefghijk", "lm")
		fork(t, r, 6)
		holds(t, "the same", r, api.History{ID: 6, Offset: 33, Second: 5, Fork: 33}, "efghijklm")
	}
}

// What is kept is no more than the size: a great stream goes through a small ring, and a great ring of which little is used is small.
func TestLittleIsKept(t *testing.T) {
	used := func(f func() *ring.Ring) int {
		var before, behind runtime.MemStats
		runtime.GC()
		runtime.ReadMemStats(&before)
		r := f()
		runtime.GC()
		runtime.ReadMemStats(&behind)
		runtime.KeepAlive(r)
		return int(behind.HeapAlloc) - int(before.HeapAlloc)
	}
	great := bytes.Repeat([]byte("x"), 1<<23)
	for name, f := range map[string]func() *ring.Ring{
		"a small ring": func() *ring.Ring {
			r, _ := ring.New(100, 1)
			r.Feed(great)
			return r
		},
		"a great ring": func() *ring.Ring {
			r, _ := ring.New(api.MaxRing, 1)
			r.Feed([]byte("abc"))
			return r
		},
		"a great ring behind Follow": func() *ring.Ring {
			r, _ := ring.New(api.MaxRing, 1)
			r.Feed(great)
			r.Follow(2, 7)
			return r
		},
	} {
		if n := used(f); n > 1<<20 {
			t.Errorf("%s keeps %d bytes", name, n)
		}
	}
	runtime.KeepAlive(great)
}

// A ring that grows does so without going over all its bytes each time.
func TestManySmallFeeds(t *testing.T) {
	r := made(t, 1<<20, 1)
	for range 1<<20 + 10 {
		r.Feed([]byte("ab"))
	}
	holds(t, "fed in pairs", r, api.History{ID: 1, Offset: 1<<21 + 20}, strings.Repeat("ab", 1<<19))
}

// Lists that are nil and that are empty are the same.
func TestNilAndEmpty(t *testing.T) {
	one, other := made(t, 3, 1), made(t, 3, 1)
	for range 4 {
		one.Feed(nil)
		other.Feed([]byte{})
		feed(t, one, "a")
		feed(t, other, "a")
	}
	for _, r := range []*ring.Ring{one, other} {
		holds(t, "nothing was fed in between", r, api.History{ID: 1, Offset: 4}, "aaa")
		if b, e := r.From(4); len(b) != 0 || e != api.OK {
			t.Errorf("From(4) = %q, %v", b, e)
		}
	}
}
