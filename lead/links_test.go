package lead_test

import (
	"fmt"
	"slices"
	"strings"
	"testing"

	"millpond/api"
)

// P22.3: Out

func TestOutOfNoLink(t *testing.T) {
	p := busy(t)
	for _, link := range []int{least + 1, -6, -4, -1, 0, 2, 4, greatest - 1} {
		for _, most := range append(ends, 2, 40) {
			if b, e := p.out(link, most); b != "" || e != api.ErrLink {
				t.Errorf("Out(%d, %d) = %q, %v", link, most, b, e)
			}
		}
	}
}

func TestOutOfTooFew(t *testing.T) {
	p := busy(t)
	before := look(p.lead)
	for _, link := range []int{least, -5, 3, greatest} { // 3's next is not there any more
		for _, most := range []int{least, least + 1, -2, -1, 0} {
			if b, e := p.out(link, most); b != "" || e != api.ErrArg {
				t.Errorf("Out(%d, %d) = %q, %v", link, most, b, e)
			}
		}
	}
	if look(p.lead) != before {
		t.Errorf("%s, it was %s", look(p.lead), before)
	}
	p.sends(-5, 1, text(30)[:1])
}

func TestOut(t *testing.T) {
	const s = "abcdefghijklmnopqrst"
	for size := 1; size <= 22; size++ { // the ring turns round at any place within what is sent
		for fed := range len(s) + 1 {
			first := max(0, fed-size)
			for offset := first; offset <= fed; offset++ {
				rest := s[offset:fed]
				for _, most := range []int{1, 2, len(rest) - 1, len(rest), len(rest) + 1, greatest} {
					if most < 1 {
						continue
					}
					p := made(t, size, 1)
					p.ok(p.raw(s[:fed]))
					p.asks(2, 1, offset, true)
					want := rest[:min(most, len(rest))]
					p.sends(2, most, want)
					p.link(2, offset+len(want), -1)
					p.sends(2, most, rest[len(want):min(2*len(want), len(rest))])
				}
			}
		}
	}
}

func TestOutOfNothing(t *testing.T) {
	p := made(t, 5, 1)
	p.asks(2, 1, 0, true)
	for _, most := range []int{1, 2, greatest} {
		p.sends(2, most, "")
	}
	p.ok(p.raw("abcdefgh"))
	p.asks(2, 1, 8, true)
	p.asks(3, 2, 8, false)
	for _, link := range []int{2, 3} {
		p.sends(link, 1, "")
		p.link(link, 8, -1)
	}
	p.ok(p.raw("i"))
	p.sends(2, 1, "i")
	p.sends(2, 1, "")
	p.sends(3, greatest, "i")
}

// A next at the first offset is there still, one below it is not: that link is dropped.
func TestOutOfWhatIsOld(t *testing.T) {
	for _, most := range []int{1, 3, 10, greatest} {
		for _, wholly := range []bool{false, true} {
			p := made(t, 10, 1)
			p.ok(p.raw("abcdefghij"))
			for link := range 4 {
				p.asks(link, 1, link, true)
				p.ok(p.ack(link, link))
			}
			if wholly {
				p.ok(p.fork(5))
			}
			p.ok(p.raw("kl"))
			for link := range 2 {
				if b, e := p.out(link, most); b != "" || e != api.ErrOld {
					t.Errorf("Out(%d, %d) = %q, %v", link, most, b, e)
				}
				if b, e := p.out(link, most); b != "" || e != api.ErrLink {
					t.Errorf("Out(%d, %d) again = %q, %v", link, most, b, e)
				}
				p.refused(p.ack(link, 0), api.ErrLink)
				if p.drop(link) {
					t.Errorf("Drop(%d)", link)
				}
			}
			p.links(2, 3)
			p.sends(2, most, "cdefghijkl"[:min(most, 10)])
			p.sends(3, most, "defghijkl"[:min(most, 9)])
			if n := p.count(-1); n != 2 {
				t.Errorf("Count(-1) = %d", n)
			}
			p.asks(0, 1, 2, true)
			p.link(0, 2, -1)
		}
	}
}

// A link is dropped when it is asked, not when its next goes.
func TestALinkThatIsOldIsThereTillItIsAsked(t *testing.T) {
	p := made(t, 4, 1)
	p.asks(9, 1, 0, true)
	p.ok(p.ack(9, 0))
	p.ok(p.raw("abcdefgh"))
	p.link(9, 0, 0)
	p.links(9)
	p.refused(p.ack(9, 1), api.ErrRange)
	if n := p.count(0); n != 1 {
		t.Errorf("Count(0) = %d", n)
	}
	p.refused(p.lead.Ack(9, 0), api.OK)
	_, e := p.out(9, 1)
	p.refused(e, api.ErrOld)
	if n := p.count(0); n != 0 {
		t.Errorf("Count(0) = %d", n)
	}
}

// Behind Fork what is sent goes on, also of the bytes that are of the elder ID.
func TestOutBehindFork(t *testing.T) {
	p := made(t, 10, 1)
	p.ok(p.raw("abcdef"))
	p.asks(0, 1, 2, true)
	p.sends(0, 2, "cd")
	p.ok(p.fork(2))
	p.sends(0, 1, "e")
	p.ok(p.raw("gh"))
	p.ok(p.fork(3))
	p.sends(0, 2, "fg")
	p.ok(p.raw("i"))
	p.sends(0, greatest, "hi")
	p.link(0, 9, -1)
}

// Behind a whole store comes what was not there when it was told.
func TestOutBehindAStore(t *testing.T) {
	p := made(t, 20, 1)
	p.ok(p.raw(text(33)))
	p.asks(0, 2, 14, false)
	p.sends(0, greatest, "")
	p.ok(p.feed(words("K")))
	p.sends(0, 4, "*1\r\n")
	p.ok(p.raw("xy"))
	p.sends(0, greatest, "$1\r\nK\r\nxy")
}

// Each link has its own next.
func TestOutOfSeveral(t *testing.T) {
	p := made(t, 100, 1)
	p.ok(p.raw(text(80)))
	for link := range api.MaxLinks {
		p.asks(link, 1, link*10, true)
	}
	for round := range 4 {
		for link := api.MaxLinks - 1; link >= 0; link-- {
			p.sends(link, 2, text(80)[link*10+round*2:][:2])
		}
	}
	for link := range api.MaxLinks {
		p.link(link, link*10+8, -1)
	}
}

// P22.3: Ack

func TestAckOfNoLink(t *testing.T) {
	p := busy(t)
	for _, link := range []int{least + 1, -1, 0, 2, 4} {
		for _, offset := range append(ends, 35, 90) {
			p.refused(p.ack(link, offset), api.ErrLink)
		}
	}
}

func TestAck(t *testing.T) {
	p := made(t, 40, 1)
	p.ok(p.raw(text(30)))
	p.asks(4, 1, 10, true)
	p.sends(4, 5, text(30)[10:15])
	wrongs := []int{least, least + 1, -2, -1, 16, 17, 30, 31, api.MaxOffset, greatest - 1, greatest}
	acked := -1
	for _, offset := range []int{0, 0, 3, 2, 0, 3, 14, 10, 15, 14, 0, 15} { // those below the offset at which it began, too
		for _, wrong := range wrongs {
			p.refused(p.ack(4, wrong), api.ErrRange)
			p.link(4, 15, acked)
		}
		p.ok(p.ack(4, offset))
		acked = max(acked, offset)
		p.link(4, 15, acked)
	}
	p.sends(4, 1, text(30)[15:16])
	p.ok(p.ack(4, 16))
	p.refused(p.ack(4, 17), api.ErrRange)
	p.link(4, 16, 16)
}

// A link's next is what may be acknowledged, not what is there: also below the first offset, and just at a store.
func TestAckAtTheNext(t *testing.T) {
	p := made(t, 4, 1)
	p.ok(p.raw("abcdef"))
	p.asks(0, 9, 9, false)
	p.refused(p.ack(0, 7), api.ErrRange)
	p.ok(p.raw("ghijklmnop"))
	p.refused(p.ack(0, 7), api.ErrRange)
	p.ok(p.ack(0, 6))
	p.ok(p.ack(0, 1))
	p.link(0, 6, 6)
}

// P22.3: Drop, Links, Link

func TestDrop(t *testing.T) {
	p := busy(t)
	for _, link := range []int{least + 1, -6, -1, 0, 2, 4, greatest - 1} {
		if p.drop(link) {
			t.Errorf("Drop(%d)", link)
		}
	}
	p.links(least, -5, 3, greatest)
	for i, link := range []int{3, greatest, least, -5} {
		if !p.drop(link) || p.drop(link) {
			t.Errorf("Drop(%d) of a link that is there once", link)
		}
		if n := len(p.lead.Links()); n != 3-i {
			t.Errorf("%d links are left", n)
		}
		p.refused(p.ack(link, 0), api.ErrLink)
		if next, acked, ok := p.lead.Link(link); next != 0 || acked != 0 || ok {
			t.Errorf("Link(%d) = %d, %d, %t", link, next, acked, ok)
		}
	}
	p.links()
	stillWait(t, p)
	p.asks(3, 7, 90, true)
	p.link(3, 90, -1)
}

// orders are all orders of a row.
func orders(l []int) [][]int {
	if len(l) == 0 {
		return [][]int{nil}
	}
	var all [][]int
	for i := range l {
		rest := slices.Delete(slices.Clone(l), i, i+1)
		for _, order := range orders(rest) {
			all = append(all, append([]int{l[i]}, order...))
		}
	}
	return all
}

func TestLinksRise(t *testing.T) {
	numbers := []int{least, -10, -9, 0, 9, greatest}
	for _, order := range orders(numbers) {
		p := made(t, 4, 1)
		for i, link := range order {
			p.asks(link, 1, 0, true)
			there := slices.Sorted(slices.Values(order[:i+1]))
			p.links(there...)
		}
		p.drop(order[2])
		p.links(slices.DeleteFunc(slices.Clone(numbers), func(n int) bool { return n == order[2] })...)
	}
}

func TestLink(t *testing.T) {
	p := busy(t)
	p.link(least, 50, 0)
	p.link(-5, 60, -1)
	p.link(3, 40, 35)
	p.link(greatest, 90, 90)
	for _, link := range []int{least + 1, -6, -4, -1, 0, 2, 4, greatest - 1} {
		if next, acked, ok := p.lead.Link(link); next != 0 || acked != 0 || ok {
			t.Errorf("Link(%d) = %d, %d, %t", link, next, acked, ok)
		}
	}
}

// P22.5: what is sent

// sent is what came on a link since it was begun, and from where on.
type sent struct {
	from int
	b    string
}

// What is sent is the stream from an offset on, in whatever pieces, also while it grows, till it is old.
func TestWhatIsSentIsTheStream(t *testing.T) {
	t.Parallel()
	for seed := range uint64(400) {
		m := newMaker(seed)
		p := made(t, 1+m.IntN(120), 1)
		var stream strings.Builder
		links := map[int]*sent{}
		olds, whole := 0, 0
		for range 120 {
			switch link := m.IntN(6); m.IntN(5) {
			case 0:
				s := text(m.IntN(40))
				p.ok(p.raw(s))
				stream.WriteString(s)
			case 1:
				args := m.command()
				p.ok(p.feed(args))
				stream.WriteString(cmd(args...))
			case 2:
				if m.IntN(4) > 0 && links[link] != nil {
					break
				}
				end := stream.Len()
				offset := end - m.IntN(min(end, 80)+1)
				_, goesOn, e := p.psync(link, idText(1), fmt.Sprint(offset), nil)
				p.ok(e)
				if !goesOn {
					offset = end
					whole++
				}
				links[link] = &sent{from: offset}
			default:
				l := links[link]
				if l == nil {
					break
				}
				b, e := p.out(link, 1+m.IntN(30))
				if e == api.ErrOld {
					delete(links, link)
					olds++
					break
				}
				p.ok(e)
				l.b += b
				if all := stream.String(); all[l.from:l.from+len(l.b)] != l.b {
					t.Fatalf("from %d on %q was sent, of %q", l.from, l.b, all)
				}
				p.link(link, l.from+len(l.b), -1)
			}
		}
		for link, l := range links {
			b, e := p.out(link, greatest)
			if e == api.ErrOld {
				continue
			}
			if all := stream.String(); l.b+b != all[l.from:] {
				t.Fatalf("from %d on %q was sent, of %q", l.from, l.b+b, all)
			}
		}
		if p.model.size < 20 && olds+whole == 0 {
			t.Errorf("ring of %d: nothing was ever old", p.model.size)
		}
	}
}

// P22.6: what is acknowledged

func TestNoneAcknowledgesMoreThanItWasSent(t *testing.T) {
	t.Parallel()
	for seed := range uint64(300) {
		m := newMaker(1000 + seed)
		p := made(t, 1+m.IntN(60), 1)
		for range 150 {
			m.step(p)
			end := p.lead.State().Offset
			links := p.lead.Links()
			for _, link := range links {
				next, acked, ok := p.lead.Link(link)
				if !ok || acked < -1 || acked > next || next > end {
					t.Fatalf("Link(%d) = %d, %d, %t, at %d", link, next, acked, ok, end)
				}
			}
			l := append([]int{least, -1, 0, 1, greatest}, end-m.IntN(30), end)
			slices.Sort(l)
			was := len(links)
			for _, offset := range l {
				n := p.lead.Count(offset)
				if n > was || n < 0 || offset > end && n > 0 {
					t.Fatalf("Count(%d) = %d, of less it is %d", offset, n, was)
				}
				was = n
			}
		}
	}
}
