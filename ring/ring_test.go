package ring_test

import (
	"fmt"
	"strings"
	"testing"

	"millpond/api"
	"millpond/ring"
)

// The example

func TestTheExample(t *testing.T) {
	r := made(t, 4, 7)
	feed(t, r, "abcdef")
	if first, end := r.Window(); first != 2 || end != 6 {
		t.Errorf("Window = %d, %d", first, end)
	}
	if b, e := r.From(3); string(b) != "def" || e != api.OK {
		t.Errorf("From(3) = %q, %v", b, e)
	}
	if b, e := r.From(1); b != nil || e != api.ErrOld {
		t.Errorf("From(1) = %q, %v", b, e)
	}
	fork(t, r, 8)
	if !r.Accepts(7, 6) {
		t.Error("the elder ID and 6 are not accepted")
	}
	feed(t, r, "g")
	if r.Accepts(7, 7) {
		t.Error("the elder ID and 7 are accepted")
	}
	if !r.Accepts(7, 6) || !r.Accepts(8, 7) {
		t.Error("the elder ID and 6, or the ID and 7, are not accepted")
	}
}

// P19.1: New

func TestNew(t *testing.T) {
	for _, size := range []int{least, -1, 0, 1, 2, api.MaxRing - 1, api.MaxRing, api.MaxRing + 1, greatest} {
		for _, id := range []uint64{0, 1, 2, 1 << 63, mostID} {
			name := fmt.Sprintf("New(%d, %d)", size, id)
			r, e := ring.New(size, id)
			if size < 1 || size > 1<<24 || id == 0 {
				if r != nil || e != api.ErrRing {
					t.Errorf("%s = %v, %v", name, r, e)
				}
				continue
			}
			if e != api.OK {
				t.Fatalf("%s = %v", name, e)
			}
			holds(t, name, r, api.History{ID: id}, "")
		}
	}
}

func TestRingsAreApart(t *testing.T) {
	a, b := made(t, 4, 1), made(t, 4, 1)
	feed(t, a, "abc")
	fork(t, a, 2)
	holds(t, "the other one", b, api.History{ID: 1}, "")
	feed(t, b, "xy")
	holds(t, "the one", a, api.History{ID: 2, Offset: 3, Second: 1, Fork: 3}, "abc")
}

// P19.1: Feed

// last are the bytes of a text that a ring of a size keeps.
func last(s string, size int) string { return s[max(0, len(s)-size):] }

func TestFeedOnce(t *testing.T) {
	for _, size := range []int{1, 2, 3, 4, 5, 7, 8, 16, 63, 64, 65, 1000} {
		for _, n := range []int{0, 1, size - 1, size, size + 1, 2*size - 1, 2 * size, 2*size + 1, 9*size + 5} {
			r := made(t, size, 1)
			feed(t, r, text(n))
			holds(t, fmt.Sprintf("size %d, fed %d", size, n), r, api.History{ID: 1, Offset: n}, last(text(n), size))
		}
	}
}

func TestFeedNothing(t *testing.T) {
	r := made(t, 3, 1)
	for n := range 8 {
		for _, b := range [][]byte{nil, {}} {
			if e := r.Feed(b); e != api.OK {
				t.Fatalf("Feed of nothing = %v", e)
			}
			holds(t, "nothing was fed", r, api.History{ID: 1, Offset: n}, last(text(n), 3))
		}
		feed(t, r, text(n + 1)[n:])
	}
}

func TestFeedInPieces(t *testing.T) {
	for _, size := range []int{1, 2, 3, 5, 8, 13, 64, 100} {
		for piece := 1; piece <= 2*size+3; piece++ {
			r := made(t, size, 9)
			s := text(5*size + 2*piece)
			for at := 0; at < len(s); at += piece {
				to := min(at+piece, len(s))
				feed(t, r, s[at:to])
				holds(t, fmt.Sprintf("size %d, pieces of %d", size, piece), r, api.History{ID: 9, Offset: to}, last(s[:to], size))
			}
		}
	}
}

func TestFeedAllBytes(t *testing.T) {
	s := ""
	for c := range 256 {
		s += string([]byte{byte(c)})
	}
	r := made(t, 256, 1)
	for range 3 {
		feed(t, r, s[:100], s[100:])
	}
	holds(t, "each byte", r, api.History{ID: 1, Offset: 768}, s)
}

func TestFeedTheGreatestRing(t *testing.T) {
	r := made(t, api.MaxRing, 1)
	s := text(api.MaxRing + 3)
	feed(t, r, s[:5], s[5:api.MaxRing])
	holds(t, "it is full", r, api.History{ID: 1, Offset: api.MaxRing}, s[:api.MaxRing])
	feed(t, r, s[api.MaxRing:])
	holds(t, "it has gone round", r, api.History{ID: 1, Offset: api.MaxRing + 3}, s[3:])
	feed(t, r, s)
	holds(t, "more than all at once", r, api.History{ID: 1, Offset: 2*api.MaxRing + 6}, s[3:])
}

func TestFeedUpToMaxOffset(t *testing.T) {
	for _, room := range []int{0, 1, 2, 3, 4, 5, 9} {
		for _, had := range []int{0, 1, 3, 5} { // bytes that are there ahead
			r := made(t, 4, 1)
			follow(t, r, 2, api.MaxOffset-room-had)
			feed(t, r, text(had))
			h := api.History{ID: 2, Offset: api.MaxOffset - room}
			name := fmt.Sprintf("room for %d behind %d", room, had)
			for _, more := range []int{1, 2, 3, 100} {
				if e := r.Feed([]byte(text(room + more))); e != api.ErrLong {
					t.Fatalf("%s: Feed of %d = %v", name, room+more, e)
				}
				holds(t, name+", refused", r, h, last(text(had), 4))
			}
			feed(t, r, "")
			holds(t, name+", nothing", r, h, last(text(had), 4))
			s := strings.Repeat("x", room)
			feed(t, r, s)
			h.Offset = api.MaxOffset
			holds(t, name+", full", r, h, last(text(had)+s, 4))
			feed(t, r, "")
			if e := r.Feed([]byte("y")); e != api.ErrLong {
				t.Fatalf("%s: Feed at MaxOffset = %v", name, e)
			}
			holds(t, name+", at the end", r, h, last(text(had)+s, 4))
		}
	}
}

func TestForkAndFollowAtMaxOffset(t *testing.T) {
	r := made(t, 4, 1)
	follow(t, r, 2, api.MaxOffset-2)
	feed(t, r, "ab")
	fork(t, r, 3)
	h := api.History{ID: 3, Offset: api.MaxOffset, Second: 2, Fork: api.MaxOffset}
	holds(t, "forked", r, h, "ab")
	if e := r.Feed([]byte("y")); e != api.ErrLong {
		t.Fatalf("Feed = %v", e)
	}
	holds(t, "forked, and refused", r, h, "ab")
	follow(t, r, 3, 0)
	feed(t, r, "abcde")
	holds(t, "followed", r, api.History{ID: 3, Offset: 5}, "bcde")
}
