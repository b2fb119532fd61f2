package ring_test

import (
	"math/rand/v2"
	"slices"
	"strings"
	"testing"

	"millpond/api"
	"millpond/ring"
)

// P19.6: the stream

// Each way to cut a short stream.
func TestTheStreamHoweverItIsCut(t *testing.T) {
	const s = "abcdefghijk"
	for size := 1; size <= len(s)+1; size++ {
		for ways := range 1 << (len(s) - 1) {
			r := made(t, size, 1)
			from := 0
			for to := 1; to <= len(s); to++ {
				if to == len(s) || ways>>(to-1)&1 == 1 {
					feed(t, r, s[from:to])
					from = to
				}
			}
			if h := r.State(); h != (api.History{ID: 1, Offset: len(s)}) {
				t.Fatalf("State = %+v", h)
			}
			first := max(0, len(s)-size)
			if is, e := r.From(first); string(is) != s[first:] || e != api.OK {
				t.Fatalf("size %d, cut by %b: From(%d) = %q, %v", size, ways, first, is, e)
			}
			if _, e := r.From(first - 1); e != api.ErrOld {
				t.Fatalf("size %d, cut by %b: From(%d) = %v", size, ways, first-1, e)
			}
		}
	}
}

// stream is n bytes by chance.
func stream(m *rand.Rand, n int) string {
	b := make([]byte, n)
	for i := range b {
		b[i] = byte(m.Uint32())
	}
	return string(b)
}

func TestALongStream(t *testing.T) {
	t.Parallel()
	m := rand.New(rand.NewPCG(19, 6))
	s := stream(m, 60000)
	for range 60 {
		size := 1 + m.IntN(1<<m.IntN(17))
		longest := 1 + m.IntN(1<<m.IntN(16))
		r := made(t, size, 1)
		for at := 0; at < len(s); {
			to := min(len(s), at+m.IntN(longest+1))
			feed(t, r, s[at:to])
			at = to
			first := max(0, at-size)
			offset := first + m.IntN(at-first+1)
			if is, e := r.From(offset); string(is) != s[offset:at] || e != api.OK {
				t.Fatalf("size %d: From(%d) at %d = %d bytes, %v", size, offset, at, len(is), e)
			}
		}
		holds(t, "in the end", r, api.History{ID: 1, Offset: len(s)}, last(s, size))
		most := 1 + m.IntN(2*size)
		var b strings.Builder
		for _, p := range all(t, r, max(0, len(s)-size), most) {
			b.WriteString(p.b)
		}
		if b.String() != last(s, size) {
			t.Fatalf("size %d, pieces of %d", size, most)
		}
	}
}

// P19.7: who goes on. P19.8: bounded

// streams are the streams of all IDs: of each ID all that anybody who had it put behind it.
type streams map[uint64]string

// ringed is a ring, its size, and where its bytes began.
type ringed struct {
	*ring.Ring
	size  int
	began int
}

// grow puts bytes behind the stream of the ring's ID.
func (x *ringed) grow(t *testing.T, all streams, s string) {
	t.Helper()
	feed(t, x.Ring, s)
	all[x.State().ID] += s
}

// part lets the ring go on by a new ID; by the elder one others go on in their own way.
func (x *ringed) part(t *testing.T, all streams, id uint64, m *rand.Rand) {
	t.Helper()
	elder := x.State().ID
	fork(t, x.Ring, id)
	all[id] = all[elder]
	all[elder] += stream(m, m.IntN(9))
}

// join lets the ring go on by an ID's stream at an offset that somebody else has.
func (x *ringed) join(t *testing.T, all streams, id uint64, m *rand.Rand) {
	t.Helper()
	all[id] = stream(m, m.IntN(30))
	x.began = len(all[id])
	follow(t, x.Ring, id, x.began)
}

// check asks the ring of all IDs at all offsets; elder is the ID that it had ahead of its own, up to a fork.
func (x *ringed) check(t *testing.T, all streams, elder uint64, forked int) {
	t.Helper()
	h := x.State()
	whole := all[h.ID]
	first, end := x.Window()
	if end != len(whole) || first != max(x.began, end-x.size) {
		t.Fatalf("Window = %d, %d of %d bytes, from %d on", first, end, len(whole), x.began)
	}
	for id, own := range all {
		for offset := -1; offset <= max(len(own), len(whole))+1; offset++ {
			is := x.Accepts(id, offset)
			known := id == h.ID || id == elder && offset <= forked
			if is != (known && first <= offset && offset <= end) {
				t.Fatalf("%+v: Accepts(%d, %d) = %t", h, id, offset, is)
			}
			if !is {
				continue
			}
			rest, e := x.From(offset)
			if e != api.OK || own[:offset]+string(rest) != whole {
				t.Fatalf("%+v: %d has %q up to %d, and %q, %v goes on; want %q", h, id, own[:offset], offset, rest, e, whole)
			}
			if len(rest) > x.size {
				t.Fatalf("%d bytes of a ring of %d", len(rest), x.size)
			}
		}
	}
}

func TestWhoGoesOn(t *testing.T) {
	t.Parallel()
	m := rand.New(rand.NewPCG(19, 7))
	for range 300 {
		size := 1 + m.IntN(20)
		x := &ringed{made(t, size, 1), size, 0}
		known := streams{1: ""}
		next, elder, forked := uint64(2), uint64(0), 0
		for range 40 {
			switch h := x.State(); m.IntN(10) {
			case 0:
				x.part(t, known, next, m)
				elder, forked = h.ID, h.Offset
				next++
			case 1:
				if m.IntN(2) == 0 {
					x.join(t, known, next, m)
					elder, forked = 0, 0
					next++
				}
			default:
				x.grow(t, known, stream(m, m.IntN(1+m.IntN(12))))
			}
			if h := x.State(); h.Second != elder || h.Fork != forked {
				t.Fatalf("State = %+v, want Second %d and Fork %d", h, elder, forked)
			}
			x.check(t, known, elder, forked)
		}
	}
}

// By chance, and against all that was fed since Follow: with calls that are refused, too.
func TestAgainstAModel(t *testing.T) {
	t.Parallel()
	m := rand.New(rand.NewPCG(19, 8))
	for range 400 {
		size := 1 + m.IntN(1<<m.IntN(8))
		r := made(t, size, 1)
		h, fed := api.History{ID: 1}, ""
		for range 60 {
			switch m.IntN(12) {
			case 0:
				h, fed = chancedFollow(t, m, r, h, fed)
			case 1:
				h = chancedFork(t, m, r, h)
			default:
				h, fed = chancedFeed(t, m, r, h, fed)
			}
			there := last(fed, size)
			holds(t, "by chance", r, h, there)
			offset, most := h.Offset-m.IntN(len(there)+1), m.IntN(size+3)-1
			if is, want := all(t, r, offset, most), cut(last(fed, h.Offset-offset), offset, most); !slices.Equal(is, want) {
				t.Fatalf("Pieces(%d, %d) = %v, want %v", offset, most, is, want)
			}
		}
	}
}

func chancedFollow(t *testing.T, m *rand.Rand, r *ring.Ring, h api.History, fed string) (api.History, string) {
	t.Helper()
	id := m.Uint64N(4)
	offset := []int{-1, 0, 1, m.IntN(100), api.MaxOffset - m.IntN(200), api.MaxOffset + 1}[m.IntN(6)]
	if e := r.Follow(id, offset); (e == api.OK) != (id > 0 && 0 <= offset && offset <= api.MaxOffset) {
		t.Fatalf("Follow(%d, %d) = %v", id, offset, e)
	} else if e != api.OK {
		return h, fed
	}
	return api.History{ID: id, Offset: offset}, ""
}

func chancedFork(t *testing.T, m *rand.Rand, r *ring.Ring, h api.History) api.History {
	t.Helper()
	id := m.Uint64N(4)
	if e := r.Fork(id); (e == api.OK) != (id > 0 && id != h.ID) {
		t.Fatalf("Fork(%d) of %+v = %v", id, h, e)
	} else if e != api.OK {
		return h
	}
	return api.History{ID: id, Offset: h.Offset, Second: h.ID, Fork: h.Offset}
}

func chancedFeed(t *testing.T, m *rand.Rand, r *ring.Ring, h api.History, fed string) (api.History, string) {
	t.Helper()
	s := stream(m, m.IntN(1<<m.IntN(9)))
	if e := r.Feed([]byte(s)); (e == api.OK) != (h.Offset+len(s) <= api.MaxOffset) {
		t.Fatalf("Feed of %d bytes at %d = %v", len(s), h.Offset, e)
	} else if e != api.OK {
		return h, fed
	}
	h.Offset += len(s)
	return h, fed + s
}
