package ring_test

import (
	"fmt"
	"iter"
	"slices"
	"testing"

	"millpond/api"
	"millpond/ring"
)

// state is a ring that has come to be in some way, its history, and the bytes that are there.
type state struct {
	name string
	r    *ring.Ring
	h    api.History
	b    string
}

// states are rings that are new, partly full, full, gone round once and several times, forked, and followed.
func states(t *testing.T) []state {
	t.Helper()
	var l []state
	for _, size := range []int{1, 2, 6, 12} {
		for _, fed := range []int{0, 1, size - 1, size, size + 1, 2 * size, 2*size + 1, 5*size + 2} {
			for _, at := range []int{0, 100, api.MaxOffset - 1000} {
				name := fmt.Sprintf("size %d, at %d, fed %d", size, at, fed)
				r := made(t, size, 5)
				follow(t, r, 5, at)
				feed(t, r, text(fed))
				there := last(text(fed), size)
				l = append(l, state{name, r, api.History{ID: 5, Offset: at + fed}, there})

				r = made(t, size, 5)
				follow(t, r, 5, at)
				feed(t, r, text(fed))
				fork(t, r, 6)
				h := api.History{ID: 6, Offset: at + fed, Second: 5, Fork: at + fed}
				l = append(l, state{name + ", forked", r, h, there})

				r = made(t, size, 5)
				feed(t, r, text(fed))
				follow(t, r, 7, at)
				l = append(l, state{name + " ahead of Follow", r, api.History{ID: 7, Offset: at}, ""})
			}
		}
	}
	return l
}

// P19.2: From

func TestFrom(t *testing.T) {
	for _, s := range states(t) {
		holds(t, s.name, s.r, s.h, s.b)
		for offset := s.h.Offset - len(s.b) - 3; offset <= s.h.Offset+3; offset++ {
			holdsFrom(t, s.name, s.r, s.h, s.b, offset)
		}
	}
}

// P19.2: Pieces

func TestPieces(t *testing.T) {
	for _, s := range states(t) {
		first := s.h.Offset - len(s.b)
		for offset := first; offset <= s.h.Offset; offset++ {
			n := s.h.Offset - offset
			for _, most := range []int{least, least + 1, -1, 0, 1, 2, 3, n / 2, n / 3, n - 1, n, n + 1, 2 * n, greatest - 1, greatest} {
				want := cut(s.b[offset-first:], offset, most)
				if is := all(t, s.r, offset, most); !slices.Equal(is, want) {
					t.Fatalf("%s: Pieces(%d, %d) = %v, want %v", s.name, offset, most, is, want)
				}
			}
		}
		holds(t, s.name+", ranged over", s.r, s.h, s.b)
	}
}

func TestPiecesOfNothing(t *testing.T) {
	for _, s := range states(t) {
		first := s.h.Offset - len(s.b)
		for _, offset := range edges(first, s.h.Offset) {
			if first <= offset && offset < s.h.Offset {
				continue
			}
			for _, most := range []int{least, -1, 0, 1, 2, 100, greatest} {
				if is := all(t, s.r, offset, most); len(is) > 0 {
					t.Fatalf("%s: Pieces(%d, %d) = %v", s.name, offset, most, is)
				}
			}
		}
	}
}

func TestPiecesLeftEarly(t *testing.T) {
	r := made(t, 10, 1)
	feed(t, r, text(23))
	seq := r.Pieces(14, 2)
	want := cut(text(23)[14:], 14, 2)
	for n := 1; n <= len(want); n++ {
		var l []piece
		for at, b := range seq {
			l = append(l, piece{at, string(b)})
			if len(l) == n {
				break
			}
		}
		if !slices.Equal(l, want[:n]) {
			t.Errorf("left at piece %d: %v", n, l)
		}
	}
}

// Once it was told to stop, an iterator tells no more.
func TestPiecesStop(t *testing.T) {
	r := made(t, 10, 1)
	feed(t, r, text(10))
	for n := 1; n <= 5; n++ {
		calls := 0
		r.Pieces(0, 2)(func(int, []byte) bool {
			calls++
			return calls < n
		})
		if calls != n {
			t.Errorf("told to stop at piece %d, and told %d", n, calls)
		}
	}
}

func TestPiecesTwice(t *testing.T) {
	r := made(t, 10, 1)
	feed(t, r, text(13))
	seq := r.Pieces(5, 3)
	want := cut(text(13)[5:], 5, 3)
	for range 3 {
		l := list(seq)
		if !slices.Equal(l, want) {
			t.Errorf("Pieces = %v, want %v", l, want)
		}
	}
}

func TestPiecesTwoAtOnce(t *testing.T) {
	r := made(t, 10, 1)
	feed(t, r, text(13))
	seq := r.Pieces(4, 2)
	want := cut(text(13)[4:], 4, 2)
	var outer []piece
	for at, b := range seq {
		outer = append(outer, piece{at, string(b)})
		inner := list(seq)
		if !slices.Equal(inner, want) {
			t.Errorf("within: %v, want %v", inner, want)
		}
	}
	if !slices.Equal(outer, want) {
		t.Errorf("without: %v, want %v", outer, want)
	}
	one, stopOne := iter.Pull2(seq)
	defer stopOne()
	two, stopTwo := iter.Pull2(r.Pieces(4, 2))
	defer stopTwo()
	for _, p := range want {
		for _, next := range []func() (int, []byte, bool){one, two} {
			if at, b, ok := next(); !ok || (piece{at, string(b)}) != p {
				t.Errorf("by turns: %d, %q, %t; want %v", at, b, ok, p)
			}
		}
	}
}

// changes are what may be done to a ring while, or ahead of when, it is ranged over.
func changes() map[string]func(r *ring.Ring) api.Errno {
	return map[string]func(r *ring.Ring) api.Errno{
		"Feed of a byte":  func(r *ring.Ring) api.Errno { return r.Feed([]byte("!")) },
		"Feed of half":    func(r *ring.Ring) api.Errno { return r.Feed([]byte("-----")) },
		"Feed of all":     func(r *ring.Ring) api.Errno { return r.Feed([]byte("##########")) },
		"Feed of more":    func(r *ring.Ring) api.Errno { return r.Feed([]byte("++++++++++++++++++++++++++++++++")) },
		"Fork":            func(r *ring.Ring) api.Errno { return r.Fork(r.State().ID + 1) },
		"Follow to ahead": func(r *ring.Ring) api.Errno { return r.Follow(77, 1) },
		"Follow to here":  func(r *ring.Ring) api.Errno { return r.Follow(77, r.State().Offset) },
		"Follow and Feed": func(r *ring.Ring) api.Errno {
			return max(r.Follow(77, 0), r.Feed([]byte("***********************")))
		},
	}
}

func TestPiecesOfARingThatIsChanged(t *testing.T) {
	for name, change := range changes() {
		for _, fed := range []int{3, 9, 10, 11, 23} {
			first := max(0, fed-10)
			want := cut(text(fed)[first:], first, 2)
			for behind := range len(want) {
				r := made(t, 10, 1)
				feed(t, r, text(fed))
				var l []piece
				for at, b := range r.Pieces(first, 2) {
					if len(l) == behind {
						if e := change(r); e != api.OK {
							t.Fatalf("%s: %v", name, e)
						}
					}
					l = append(l, piece{at, string(b)})
				}
				if !slices.Equal(l, want) {
					t.Errorf("fed %d, %s at piece %d: %v, want %v", fed, name, behind, l, want)
				}
			}
		}
	}
}

// What a ring has when the loop begins is told, not what it had when Pieces was called.
func TestPiecesOfARingThatWasChanged(t *testing.T) {
	for name, change := range changes() {
		for _, offset := range []int{0, 13, 14, 20, 22, 23, 24, 33, 55} {
			r := made(t, 10, 1)
			feed(t, r, text(23))
			seq := r.Pieces(offset, 3)
			for range 2 {
				if e := change(r); e != api.OK {
					t.Fatalf("%s: %v", name, e)
				}
				b, _ := r.From(offset)
				want := cut(string(b), offset, 3)
				if l := list(seq); !slices.Equal(l, want) {
					t.Errorf("%s, from %d on: %v, want %v", name, offset, l, want)
				}
			}
		}
	}
}

// A ring that is new when Pieces is called tells what was fed by the time of the loop.
func TestPiecesOfARingThatWasNew(t *testing.T) {
	r := made(t, 10, 1)
	seq := r.Pieces(2, 2)
	for at, b := range seq {
		t.Errorf("%d: %q", at, b)
	}
	feed(t, r, "abcde")
	l := list(seq)
	if want := []piece{{2, "cd"}, {4, "e"}}; !slices.Equal(l, want) {
		t.Errorf("%v, want %v", l, want)
	}
}

func TestPiecesThatAreChanged(t *testing.T) {
	for _, fed := range []int{4, 9, 10, 11, 20, 25} {
		first := max(0, fed-10)
		there := text(fed)[first:]
		for most := 1; most <= 11; most++ {
			r := made(t, 10, 1)
			feed(t, r, text(fed))
			want := cut(there, first, most)
			var pieces [][]byte
			n := 0
			for at, b := range r.Pieces(first, most) {
				if (piece{at, string(b)}) != want[n] {
					t.Fatalf("fed %d, pieces of %d: %d, %q; want %v", fed, most, at, b, want[n])
				}
				n++
				pieces = append(pieces, b)
				for i := range b {
					b[i] = '?'
				}
				if longer := append(b, "appended"...); string(longer[:len(b)]) != string(b) {
					t.Fatalf("appended to: %q", longer)
				}
			}
			if n != len(want) {
				t.Fatalf("fed %d, pieces of %d: %d of %d", fed, most, n, len(want))
			}
			for i, b := range pieces {
				if len(b) != len(want[i].b) || slices.ContainsFunc(b, func(c byte) bool { return c != '?' }) {
					t.Fatalf("fed %d, pieces of %d: piece %d is %q now", fed, most, i, b)
				}
			}
			holds(t, "its pieces were written into", r, api.History{ID: 1, Offset: fed}, there)
		}
	}
}
