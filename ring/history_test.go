package ring_test

import (
	"fmt"
	"testing"

	"millpond/api"
	"millpond/ring"
)

// P19.3: Accepts

// asked is who asks, and from where on it is accepted: at the offsets from one to another one (none, if the latter is less).
type asked struct {
	id       uint64
	from, to int
}

// accepts holds Accepts against those that are to be accepted; other IDs are not.
func accepts(t *testing.T, name string, r *ring.Ring, l ...asked) {
	t.Helper()
	first, end := r.Window()
	l = append(l, asked{0, 0, -1}, asked{99, 0, -1}, asked{mostID - 1, 0, -1})
	for _, a := range l {
		offsets := edges(first, end)
		for offset := first - 3; offset <= end+3; offset++ {
			offsets = append(offsets, offset)
		}
		for _, offset := range offsets {
			want := a.from <= offset && offset <= a.to
			if is := r.Accepts(a.id, offset); is != want {
				t.Errorf("%s: Accepts(%d, %d) = %t", name, a.id, offset, is)
			}
		}
	}
}

func TestAccepts(t *testing.T) {
	r := made(t, 6, 10)
	accepts(t, "new", r, asked{10, 0, 0})
	feed(t, r, "abcd")
	accepts(t, "partly full", r, asked{10, 0, 4})
	feed(t, r, "ef")
	accepts(t, "full", r, asked{10, 0, 6})
	feed(t, r, "ghi")
	accepts(t, "gone round", r, asked{10, 3, 9})
	fork(t, r, 11)
	accepts(t, "forked", r, asked{10, 3, 9}, asked{11, 3, 9})
	feed(t, r, "jk")
	accepts(t, "fed behind the fork", r, asked{10, 5, 9}, asked{11, 5, 11})
	feed(t, r, "lmno")
	accepts(t, "the fork is the first offset", r, asked{10, 9, 9}, asked{11, 9, 15})
	feed(t, r, "p")
	accepts(t, "the fork is below the first offset", r, asked{10, 10, 9}, asked{11, 10, 16})
	fork(t, r, 12)
	feed(t, r, "q")
	accepts(t, "forked twice", r, asked{10, 0, -1}, asked{11, 11, 16}, asked{12, 11, 17})
}

func TestAcceptsBehindTwoForks(t *testing.T) {
	r := made(t, 20, 10)
	feed(t, r, "abc")
	fork(t, r, 11)
	feed(t, r, "de")
	fork(t, r, 12)
	feed(t, r, "f")
	accepts(t, "the eldest is not known any more", r, asked{10, 0, -1}, asked{11, 0, 5}, asked{12, 0, 6})
}

func TestAcceptsBehindAForkBack(t *testing.T) {
	r := made(t, 20, 10)
	feed(t, r, "abc")
	fork(t, r, 11)
	feed(t, r, "de")
	fork(t, r, 10)
	accepts(t, "back to the elder ID", r, asked{10, 0, 5}, asked{11, 0, 5})
	feed(t, r, "f")
	accepts(t, "fed behind that", r, asked{10, 0, 6}, asked{11, 0, 5})
}

func TestAcceptsBehindFollow(t *testing.T) {
	r := made(t, 20, 10)
	feed(t, r, "abc")
	fork(t, r, 11)
	feed(t, r, "de")
	follow(t, r, 12, 40)
	accepts(t, "another ID", r, asked{10, 0, -1}, asked{11, 0, -1}, asked{12, 40, 40})
	feed(t, r, "xy")
	accepts(t, "fed behind that", r, asked{10, 0, -1}, asked{11, 0, -1}, asked{12, 40, 42})
	fork(t, r, 13)
	accepts(t, "forked behind that", r, asked{11, 0, -1}, asked{12, 40, 42}, asked{13, 40, 42})
	follow(t, r, 12, 3)
	accepts(t, "the elder ID", r, asked{12, 3, 3}, asked{13, 0, -1})
	follow(t, r, 12, 0)
	accepts(t, "its own ID", r, asked{12, 0, 0}, asked{13, 0, -1})
}

func TestAcceptsTheGreatestID(t *testing.T) {
	r := made(t, 4, mostID)
	feed(t, r, "ab")
	accepts(t, "new", r, asked{mostID, 0, 2})
	fork(t, r, 1)
	feed(t, r, "c")
	accepts(t, "forked", r, asked{mostID, 0, 2}, asked{1, 0, 3})
	fork(t, r, mostID)
	accepts(t, "forked back", r, asked{mostID, 0, 3}, asked{1, 0, 3})
}

func TestAcceptsAtMaxOffset(t *testing.T) {
	r := made(t, 4, 1)
	follow(t, r, 2, api.MaxOffset-3)
	feed(t, r, "a")
	fork(t, r, 3)
	feed(t, r, "bc")
	accepts(t, "forked", r, asked{1, 0, -1}, asked{2, api.MaxOffset - 3, api.MaxOffset - 2}, asked{3, api.MaxOffset - 3, api.MaxOffset})
}

// P19.4: Fork

func TestFork(t *testing.T) {
	for _, fed := range []int{0, 1, 3, 4, 5, 9} {
		for _, id := range []uint64{1, 2, 8, mostID} {
			r := made(t, 4, 7)
			feed(t, r, text(fed))
			name := fmt.Sprintf("fed %d, Fork(%d)", fed, id)
			there := last(text(fed), 4)
			fork(t, r, id)
			h := api.History{ID: id, Offset: fed, Second: 7, Fork: fed}
			holds(t, name, r, h, there)
			feed(t, r, "xy")
			h.Offset += 2
			there = last(text(fed)+"xy", 4)
			holds(t, name+", fed", r, h, there)
			for _, wrong := range []uint64{0, id} {
				if e := r.Fork(wrong); e != api.ErrRing {
					t.Errorf("%s, Fork(%d) = %v", name, wrong, e)
				}
				holds(t, name+", refused", r, h, there)
			}
			fork(t, r, 7)
			h = api.History{ID: 7, Offset: fed + 2, Second: id, Fork: fed + 2}
			holds(t, name+", forked back", r, h, there)
			fork(t, r, 9)
			h = api.History{ID: 9, Offset: fed + 2, Second: 7, Fork: fed + 2}
			holds(t, name+", forked once more", r, h, there)
		}
	}
}

func TestForkOfANewRing(t *testing.T) {
	for _, id := range []uint64{0, 7} {
		r := made(t, 4, 7)
		if e := r.Fork(id); e != api.ErrRing {
			t.Errorf("Fork(%d) = %v", id, e)
		}
		holds(t, "refused", r, api.History{ID: 7}, "")
	}
}

// P19.4: Follow

func TestFollow(t *testing.T) {
	for _, fed := range []int{0, 1, 4, 5, 9} {
		for _, id := range []uint64{0, 1, 7, 8, mostID} {
			for _, offset := range []int{least, -1, 0, 1, 5, 6, 77, api.MaxOffset - 1, api.MaxOffset, api.MaxOffset + 1, greatest} {
				r := made(t, 4, 7)
				feed(t, r, text(fed))
				fork(t, r, 8)
				feed(t, r, "z")
				name := fmt.Sprintf("fed %d, Follow(%d, %d)", fed, id, offset)
				e := r.Follow(id, offset)
				if id == 0 || offset < 0 || offset > 1<<50 {
					if e != api.ErrRing {
						t.Errorf("%s = %v", name, e)
					}
					holds(t, name, r, api.History{ID: 8, Offset: fed + 1, Second: 7, Fork: fed}, last(text(fed)+"z", 4))
					continue
				}
				if e != api.OK {
					t.Fatalf("%s = %v", name, e)
				}
				holds(t, name, r, api.History{ID: id, Offset: offset}, "")
				holdsFollowed(t, name, r, id, offset)
			}
		}
	}
}

// holdsFollowed feeds a ring of size 4 behind Follow, byte by byte, as far as its offset may go.
func holdsFollowed(t *testing.T, name string, r *ring.Ring, id uint64, offset int) {
	t.Helper()
	s := "abcdefghi"[:min(9, api.MaxOffset-offset)]
	for n := range len(s) {
		feed(t, r, s[n:n+1])
		holds(t, name+", fed", r, api.History{ID: id, Offset: offset + n + 1}, last(s[:n+1], 4))
	}
}
