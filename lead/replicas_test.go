package lead_test

import (
	"strconv"
	"testing"

	"millpond/api"
	"millpond/exec"
	"millpond/follow"
	"millpond/image"
	"millpond/space"
)

// P22.5: of what a lead tells a replica's link makes the store.

// primary is a lead beside its store.
type primary struct {
	*pair
	space *space.Space
}

// do does a command, and feeds what is told of it.
func (p primary) do(args ...string) {
	p.t.Helper()
	_, told := exec.Do(p.space, api.Call{Role: api.RolePrimary, Args: args})
	p.ok(p.feed(told...))
}

// replica is a link's other end, and its store.
type replica struct {
	link   int
	follow *follow.Follow
	space  *space.Space
	id     uint64
}

// comes takes what came on the link, in two pieces; what a primary says may not cut it.
func (r *replica) comes(t *testing.T, b string) {
	t.Helper()
	for _, piece := range []string{b[:len(b)/3], b[len(b)/3:]} {
		took, e := r.follow.Take(0, []byte(piece))
		if e != api.OK || took.Drop {
			t.Fatalf("Take(%q) = %+v, %v", brief(piece), took, e)
		}
		if took.Empty {
			r.space = space.New()
		}
		if took.Load {
			r.space, _ = space.Load(took.Img)
		}
		if took.Load || took.Continue {
			r.id = took.H.ID
		}
		if n, e := exec.Apply(r.space, took.Commands...); n != len(took.Commands) || e != api.OK {
			t.Fatalf("Apply(%q) = %d, %v", took.Commands, n, e)
		}
	}
}

// asks begins the link anew, from where the replica is.
func (r *replica) asks(p primary) bool {
	p.t.Helper()
	if s, _ := r.follow.State(); s != api.FIdle {
		p.ok(r.follow.Down(0))
	}
	_, offset := r.follow.State()
	p.ok(second(r.follow.Up(0, r.id, offset)))
	id := "?"
	if r.id != 0 {
		id = idText(r.id)
	}
	b, goesOn, e := p.psync(r.link, id, strconv.Itoa(offset), p.space.Image())
	p.ok(e)
	r.comes(p.t, b)
	return goesOn
}

func second(_ []byte, e api.Errno) api.Errno { return e }

func TestReplicasHaveTheStore(t *testing.T) {
	t.Parallel()
	keys := []string{"a", "b", "c"}
	for seed := range uint64(200) {
		m := newMaker(6000 + seed)
		p := primary{made(t, 20+m.IntN(400), 1), space.New()}
		replicas := make([]*replica, 3)
		for i := range replicas {
			f, _ := follow.New(api.FollowConf{Retry: 5, Ack: 5}, 0)
			replicas[i] = &replica{link: i, follow: f, space: space.New()}
			replicas[i].asks(p)
		}
		for range 80 {
			key := keys[m.IntN(3)]
			switch r := replicas[m.IntN(3)]; m.IntN(9) {
			case 0:
				p.do("SET", key, text(m.IntN(20)))
			case 1:
				p.do("RPUSH", key, "x", text(m.IntN(9)))
			case 2:
				p.do("DEL", key)
			case 3:
				p.do("SADD", key, text(m.IntN(3)), text(m.IntN(3)))
			case 4:
				p.fork(1 + m.Uint64N(9))
			case 5:
				r.asks(p)
			default:
				b, e := p.out(r.link, 1+m.IntN(50))
				if e != api.OK {
					r.asks(p)
					continue
				}
				r.comes(t, b)
				_, offset := r.follow.State()
				p.ok(p.ack(r.link, offset))
			}
		}
		for _, r := range replicas {
			b, e := p.out(r.link, greatest)
			if e != api.OK {
				r.asks(p)
			}
			r.comes(t, b)
			if _, offset := r.follow.State(); offset != p.model.h.Offset || !image.Same(r.space.Image(), p.space.Image()) {
				t.Fatalf("a replica at %d of %d has another store", offset, p.model.h.Offset)
			}
		}
	}
}
