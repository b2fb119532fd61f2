package lead_test

import (
	"fmt"
	"math/rand/v2"
	"slices"
	"strings"
	"testing"

	"millpond/api"
	"millpond/exec"
	"millpond/lead"
)

// P22.1

func TestNew(t *testing.T) {
	for _, size := range []int{least, -1, 0, 1, 2, api.MaxRing - 1, api.MaxRing, api.MaxRing + 1, greatest} {
		for _, id := range []uint64{0, 1, 1 << 63, mostID} {
			l, e := lead.New(size, id)
			if size < 1 || size > 1<<24 || id == 0 {
				if l != nil || e != api.ErrRing {
					t.Errorf("New(%d, %d) = %v, %v", size, id, l, e)
				}
				continue
			}
			if l == nil || e != api.OK {
				t.Fatalf("New(%d, %d) = %v, %v", size, id, l, e)
			}
			isNew(t, l, id)
		}
	}
}

func isNew(t *testing.T, l *lead.Lead, id uint64) {
	t.Helper()
	if h := l.State(); h != (api.History{ID: id}) {
		t.Errorf("State = %+v", h)
	}
	if first, end := l.Window(); first != 0 || end != 0 {
		t.Errorf("Window = %d, %d", first, end)
	}
	if links := l.Links(); len(links) != 0 {
		t.Errorf("Links = %v", links)
	}
	for _, n := range ends {
		if next, acked, ok := l.Link(n); next != 0 || acked != 0 || ok {
			t.Errorf("Link(%d) = %d, %d, %t", n, next, acked, ok)
		}
		if is := l.Count(n); is != 0 {
			t.Errorf("Count(%d) = %d", n, is)
		}
		if told := l.Done(n); len(told) != 0 {
			t.Errorf("Done(%d) = %v", n, told)
		}
		if l.Drop(n) || l.Leave(n) {
			t.Errorf("of a new one %d is there", n)
		}
	}
}

// The chapter's example.
func TestExample(t *testing.T) {
	p := made(t, 100, 1)
	p.ok(p.feed(words("SET k v")))
	img := []api.Entry{stay("k", api.Value{Kind: api.KString, S: "v"})}
	b, goesOn, e := p.psync(0, "?", "-1", img)
	const line = "+FULLRESYNC 0000000000000001 27\r\n$52\r\nMILLPOND\x01"
	if !strings.HasPrefix(b, line) || goesOn || e != api.OK {
		t.Errorf("Psync = %q, %t, %v", b, goesOn, e)
	}
	p.ok(p.ack(0, 27))
	if n := p.count(27); n != 1 {
		t.Errorf("Count(27) = %d", n)
	}
}

// P22.1: Feed

// What stands behind the stream is the bytes of commands, through rings of any size, in one call and in many.
func TestFeed(t *testing.T) {
	l := [][]string{words("SET k v"), words("DEL k"), {""}, {"RPUSH", "\r\n\x00", "*1\r\n$0\r\n\r\n"}, slices.Repeat([]string{"x"}, 1024), {"SET", "k", long[:3000]}}
	var all string
	for _, args := range l {
		all += cmd(args...)
	}
	for _, size := range []int{1, 2, 26, 27, 28, len(all) - 1, len(all), len(all) + 1, 1 << 20, api.MaxRing} {
		together, apart := made(t, size, 1), made(t, size, 1)
		for range 3 {
			together.ok(together.feed(l...))
			together.holds()
			for _, args := range l {
				apart.ok(apart.feed(args))
				apart.ok(apart.feed())
				apart.holds()
			}
		}
		if end := 3 * len(all); together.model.h.Offset != end || look(together.lead) != look(apart.lead) {
			t.Fatalf("%s, and apart %s", look(together.lead), look(apart.lead))
		}
	}
}

func TestFeedTheExample(t *testing.T) {
	for _, size := range []int{1, 26, 27, 28, 53, 54, 55} {
		for n := range 4 {
			p := made(t, size, 1)
			p.ok(p.feed(slices.Repeat([][]string{words("SET k v")}, n)...))
			if first, end := p.lead.Window(); end != 27*n || first != max(0, 27*n-size) {
				t.Errorf("size %d, fed %d: Window = %d, %d", size, n, first, end)
			}
			p.holds()
		}
	}
}

func TestFeedNothing(t *testing.T) {
	p := made(t, 30, 1)
	p.ok(p.feed())
	p.ok(p.raw(""))
	p.ok(p.lead.Feed([][]string{}...))
	p.ok(p.lead.Raw(nil))
	isNew(t, p.lead, 1)
	p.ok(p.feed(words("SET k v")))
	p.ok(p.feed())
	p.ok(p.raw(""))
	p.holds()
}

// wrongs are commands that may not be.
func wrongs() map[string][]string {
	return map[string][]string{
		"no texts":            {},
		"nil":                 nil,
		"1025 texts":          slices.Repeat([]string{"x"}, 1025),
		"too long a text":     {"SET", "k", over},
		"too long a first":    {over},
		"too many, too long":  slices.Repeat([]string{over}, 1025),
		"a text of 2^17":      {"SET", long + long},
		"much more than 1024": slices.Repeat([]string{""}, 5000),
	}
}

func TestFeedWhatMayNotBe(t *testing.T) {
	right := [][]string{words("SET k v"), words("DEL k"), words("SADD s a b")}
	for name, wrong := range wrongs() {
		for at := range len(right) + 1 {
			for _, size := range []int{1, 30, 1000} {
				l := slices.Insert(slices.Clone(right), at, wrong)
				_, want := exec.Bytes(l...)
				if want == api.OK {
					t.Fatalf("exec.Bytes takes %s", name)
				}
				p := made(t, size, 1)
				p.refused(p.feed(l...), want)
				isNew(t, p.lead, 1)
				p.ok(p.feed(right...))
				p.ok(p.raw("behind"))
				p.asks(3, 1, p.model.first(), true)
				before := look(p.lead)
				p.refused(p.feed(l...), want)
				p.refused(p.feed(wrong), want)
				if look(p.lead) != before {
					t.Errorf("%s: %s, it was %s", name, look(p.lead), before)
				}
				p.holds()
			}
		}
	}
}

// Of two commands that may not be the first one's error is told.
func TestFeedTwoThatMayNotBe(t *testing.T) {
	p := made(t, 100, 1)
	p.refused(p.feed(words("DEL k"), []string{over}, nil), api.ErrLong)
	p.refused(p.feed(words("DEL k"), nil, []string{over}), api.ErrMany)
	p.holds()
}

// P22.1: the offset's end

func TestFeedUpToMaxOffset(t *testing.T) {
	for _, room := range []int{0, 1, 26, 27, 28, 53, 54, 55} {
		for _, size := range []int{1, 20, 100} {
			p := made(t, size, 1)
			p.ok(p.follow(2, api.MaxOffset-room))
			for n := 27; n <= 54; n += 27 {
				want := api.OK
				if n > room {
					want = api.ErrLong
				}
				p.refused(p.feed(words("SET k v")), want)
				p.holds()
			}
			if offset := p.lead.State().Offset; offset != api.MaxOffset-room+min(room/27, 2)*27 {
				t.Errorf("room for %d: Offset = %d", room, offset)
			}
			p.refused(p.feed(words("SET k v"), words("SET k v"), words("SET k v")), api.ErrLong)
			p.refused(p.feed(words("SET k v"), nil), api.ErrMany)
			rest := api.MaxOffset - p.lead.State().Offset
			p.refused(p.raw(text(rest+1)), api.ErrLong)
			p.ok(p.raw(text(rest)))
			p.refused(p.raw("x"), api.ErrLong)
			p.refused(p.feed(words("SET k v")), api.ErrLong)
			p.ok(p.feed())
			p.ok(p.raw(""))
			p.holds()
			p.asks(1, 2, api.MaxOffset, true)
			p.ok(p.ack(1, api.MaxOffset))
			if b, goesOn, _ := p.psync(2, "?", "-1", nil); !strings.HasPrefix(b, "+FULLRESYNC 0000000000000002 1125899906842624\r\n$33\r\n") || goesOn {
				t.Errorf("Psync = %q, %t", b, goesOn)
			}
		}
	}
}

// P22.1: Raw

func TestRaw(t *testing.T) {
	for _, size := range []int{1, 2, 5, 9, 10, 11, 1000} {
		for _, n := range []int{1, 4, 5, 6, 10, 11, 25, 3000} {
			p := made(t, size, mostID)
			p.ok(p.raw("ahead"))
			p.ok(p.raw(text(n)))
			p.holds()
			p.ok(p.feed(words("DEL k")))
			p.ok(p.raw("\x00\r\n"))
			p.holds()
		}
	}
}

// A stream that is longer than the greatest ring.
func TestTheGreatestRing(t *testing.T) {
	t.Parallel()
	p := made(t, api.MaxRing, 1)
	great := slices.Repeat([]string{long}, 1024)
	p.ok(p.lead.Feed(words("SET k v"), great, words("DEL k")))
	p.ok(p.model.feed([][]string{words("SET k v"), great, words("DEL k")}))
	if first, end := p.lead.Window(); end-first != 1<<24 || first != p.model.first() {
		t.Errorf("Window = %d, %d", first, end)
	}
	p.holds()
}

// P22.1: Fork, Follow

// busy is a lead of ring size 40 that was fed 90 bytes, with links of all kinds, and three clients that wait.
func busy(t *testing.T) *pair {
	t.Helper()
	p := made(t, 40, 7)
	p.ok(p.raw(text(60)))
	p.asks(3, 7, 30, true)
	p.asks(-5, 7, 60, true)
	p.sends(3, 10, text(60)[30:40])
	p.ok(p.ack(3, 35))
	p.ok(p.raw(text(30)))
	p.asks(greatest, 1, 0, false)
	p.ok(p.ack(greatest, 90))
	p.asks(least, 7, 50, true)
	p.ok(p.ack(least, 0))
	p.ok(p.wait(10, 90, 2, 0))
	p.ok(p.wait(-1, 80, 5, 700))
	p.ok(p.wait(11, 0, 5, 900))
	p.links(least, -5, 3, greatest)
	return p
}

// stillWait holds that those of a busy one still wait, in their order.
func stillWait(t *testing.T, p *pair) {
	t.Helper()
	if e := p.lead.Wait(10, 0, 9, 0); e != api.ErrWait {
		t.Errorf("Wait of one that waits = %v", e)
	}
	if l := p.done(900); len(l) < 2 || l[len(l)-2].Client != -1 || l[len(l)-1].Client != 11 {
		t.Errorf("Done = %v", l)
	}
	p.forgets()
}

func TestFork(t *testing.T) {
	for _, id := range []uint64{0, 1, 6, 7, 8, mostID} {
		p := busy(t)
		if id == 0 || id == 7 {
			p.refused(p.fork(id), api.ErrRing)
		} else {
			p.ok(p.fork(id))
			if h := p.lead.State(); h != (api.History{ID: id, Offset: 90, Second: 7, Fork: 90}) {
				t.Errorf("State = %+v", h)
			}
		}
		p.links(least, -5, 3, greatest)
		p.link(3, 40, 35)
		p.link(greatest, 90, 90)
		if first, end := p.lead.Window(); first != 50 || end != 90 {
			t.Errorf("Window = %d, %d", first, end)
		}
		p.sends(-5, greatest, text(30))
		p.ok(p.raw("behind"))
		p.sends(-5, greatest, "behind")
		p.holds()
		stillWait(t, p)
	}
}

func TestForkTwice(t *testing.T) {
	p := busy(t)
	p.ok(p.fork(8))
	p.refused(p.fork(8), api.ErrRing)
	p.ok(p.raw("ab"))
	p.ok(p.fork(7))
	p.ok(p.raw("c"))
	if h := p.lead.State(); h != (api.History{ID: 7, Offset: 93, Second: 8, Fork: 92}) {
		t.Errorf("State = %+v", h)
	}
	p.sends(greatest, greatest, "abc")
	p.holds()
}

func TestFollow(t *testing.T) {
	for _, id := range []uint64{0, 1, 7, 8, mostID} {
		for _, offset := range []int{least, -1, 0, 1, 60, 89, 90, 91, 5000, api.MaxOffset - 1, api.MaxOffset, api.MaxOffset + 1, greatest} {
			p := busy(t)
			if id == 0 || offset < 0 || offset > 1<<50 {
				p.refused(p.follow(id, offset), api.ErrRing)
				p.links(least, -5, 3, greatest)
				p.link(3, 40, 35)
				p.sends(-5, greatest, text(30))
				p.holds()
				stillWait(t, p)
				continue
			}
			p.ok(p.follow(id, offset))
			p.links()
			if n := p.count(-1); n != 0 {
				t.Errorf("Count(-1) = %d", n)
			}
			if h := p.lead.State(); h != (api.History{ID: id, Offset: offset}) {
				t.Errorf("State = %+v", h)
			}
			for _, link := range []int{least, -5, 3, greatest} {
				if b, e := p.out(link, 9); b != "" || e != api.ErrLink {
					t.Errorf("Out(%d, 9) = %q, %v", link, b, e)
				}
				if p.drop(link) {
					t.Errorf("Drop(%d)", link)
				}
			}
			p.holds()
			stillWait(t, p)
		}
	}
}

// Behind Follow the links that come are new ones, as many as may be.
func TestLinksBehindFollow(t *testing.T) {
	p := busy(t)
	for link := range 4 {
		p.asks(100+link, 7, 90, true)
	}
	p.ok(p.follow(7, 90))
	for link := range api.MaxLinks {
		p.asks(link, 7, 90, true)
		p.link(link, 90, -1)
	}
	_, _, e := p.psync(8, idText(7), "90", nil)
	p.refused(e, api.ErrMany)
}

// A client that waits for what another history's offset is below waits on.
func TestWaitingBehindFollow(t *testing.T) {
	p := busy(t)
	p.ok(p.follow(9, 20))
	p.asks(1, 9, 20, true)
	p.asks(2, 9, 20, true)
	p.ok(p.ack(1, 20))
	p.ok(p.ack(2, 20))
	p.tells(600)
	p.refused(p.wait(12, 21, 0, 0), api.ErrRange)
	for range 2 {
		p.ok(p.raw(text(35)))
		p.sends(1, 70, text(35))
		p.sends(2, 70, text(35))
	}
	p.ok(p.ack(1, 90))
	p.ok(p.ack(2, 89))
	p.tells(600)
	p.ok(p.ack(2, 90))
	p.tells(600, api.Waited{Client: 10, Count: 2})
	p.tells(700, api.Waited{Client: -1, Count: 2})
}

// P22.1: long rows of what changes the ring, by chance.
func TestStreamsByChance(t *testing.T) {
	t.Parallel()
	m := rand.New(rand.NewPCG(22, 1))
	for range 300 {
		p := made(t, 1+m.IntN(60), 1+m.Uint64N(4))
		for range 40 {
			switch m.IntN(9) {
			case 0:
				p.fork(m.Uint64N(5))
			case 1:
				p.follow(m.Uint64N(5), []int{-1, 0, 5, api.MaxOffset - 40, api.MaxOffset + 1}[m.IntN(5)])
			case 2, 3, 4:
				p.raw(text(m.IntN(50)))
			default:
				l := make([][]string, m.IntN(4))
				for i := range l {
					l[i] = slices.Repeat([]string{fmt.Sprint(m.IntN(1000))}, max(0, m.IntN(20)-1))
				}
				p.feed(l...)
			}
			p.holds()
		}
	}
}
