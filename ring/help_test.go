package ring_test

import (
	"bytes"
	"fmt"
	"iter"
	"math"
	"testing"

	"millpond/api"
	"millpond/ring"
)

const (
	least    = math.MinInt
	greatest = math.MaxInt
	mostID   = uint64(math.MaxUint64)
)

// made is a ring that New must make.
func made(t *testing.T, size int, id uint64) *ring.Ring {
	t.Helper()
	r, e := ring.New(size, id)
	if r == nil || e != api.OK {
		t.Fatalf("New(%d, %d) = %v, %v", size, id, r, e)
	}
	return r
}

// feed puts texts behind the stream.
func feed(t *testing.T, r *ring.Ring, l ...string) {
	t.Helper()
	for _, s := range l {
		if e := r.Feed([]byte(s)); e != api.OK {
			t.Fatalf("Feed(%q) = %v", s, e)
		}
	}
}

func fork(t *testing.T, r *ring.Ring, id uint64) {
	t.Helper()
	if e := r.Fork(id); e != api.OK {
		t.Fatalf("Fork(%d) = %v", id, e)
	}
}

func follow(t *testing.T, r *ring.Ring, id uint64, offset int) {
	t.Helper()
	if e := r.Follow(id, offset); e != api.OK {
		t.Fatalf("Follow(%d, %d) = %v", id, offset, e)
	}
}

// text are n bytes, of which those near one another differ.
func text(n int) string {
	b := make([]byte, n)
	for i := range b {
		b[i] = byte(i*7 + i/256*13)
	}
	return string(b)
}

// piece is a piece of a stream, with its offset.
type piece struct {
	at int
	b  string
}

func (p piece) String() string { return fmt.Sprintf("%d:%q", p.at, p.b) }

// list are all pieces that an iterator tells.
func list(seq iter.Seq2[int, []byte]) []piece {
	var l []piece
	for at, b := range seq {
		l = append(l, piece{at, string(b)})
	}
	return l
}

// all are a ring's pieces; each is held against the rules for one piece alone.
func all(t *testing.T, r *ring.Ring, offset, most int) []piece {
	t.Helper()
	var l []piece
	for at, b := range r.Pieces(offset, most) {
		if len(b) == 0 || len(b) > most || cap(b) != len(b) {
			t.Fatalf("Pieces(%d, %d): a piece of %d bytes, with room for %d", offset, most, len(b), cap(b))
		}
		l = append(l, piece{at, string(b)})
	}
	return l
}

// cut is a text that begins at an offset, in pieces of most bytes.
func cut(s string, offset, most int) []piece {
	var l []piece
	for most > 0 && len(s) > most {
		l = append(l, piece{offset, s[:most]})
		s, offset = s[most:], offset+most
	}
	if most > 0 && s != "" {
		l = append(l, piece{offset, s})
	}
	return l
}

// edges are the offsets about a window, and those that are none.
func edges(first, end int) []int {
	l := []int{least, least + 1, -1, 0, 1, api.MaxOffset, api.MaxOffset + 1, greatest - 1, greatest}
	for _, at := range []int{first, (first + end) / 2, end} {
		l = append(l, at-1, at, at+1)
	}
	return l
}

// holds holds a ring against its history and all bytes that are to be there, up to Offset.
func holds(t *testing.T, name string, r *ring.Ring, h api.History, bytes string) {
	t.Helper()
	if is := r.State(); is != h {
		t.Fatalf("%s: State = %+v, want %+v", name, is, h)
	}
	first := h.Offset - len(bytes)
	if from, to := r.Window(); from != first || to != h.Offset {
		t.Fatalf("%s: Window = %d, %d, want %d, %d", name, from, to, first, h.Offset)
	}
	for _, offset := range edges(first, h.Offset) {
		holdsFrom(t, name, r, h, bytes, offset)
	}
}

// holdsFrom holds From and Accepts at an offset against the bytes that are to be there.
func holdsFrom(t *testing.T, name string, r *ring.Ring, h api.History, there string, offset int) {
	t.Helper()
	first := h.Offset - len(there)
	within := first <= offset && offset <= h.Offset
	b, e := r.From(offset)
	switch {
	case !within && (b != nil || e != api.ErrOld):
		t.Fatalf("%s: From(%d) = %q, %v, want ErrOld", name, offset, b, e)
	case within && (e != api.OK || !bytes.Equal(b, []byte(there[offset-first:]))):
		t.Fatalf("%s: From(%d) = %q, %v, want %q", name, offset, b, e, there[offset-first:])
	}
	for _, id := range []uint64{0, h.ID, h.Second, h.ID + 1, h.Second + 1, ^h.ID} {
		want := within && (id == h.ID || id != 0 && id == h.Second && offset <= h.Fork)
		if is := r.Accepts(id, offset); is != want {
			t.Fatalf("%s: Accepts(%d, %d) = %t", name, id, offset, is)
		}
	}
}
