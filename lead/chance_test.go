package lead_test

import (
	"math/rand/v2"
	"strconv"
	"testing"

	"millpond/api"
)

// maker draws calls by chance, always the same ones.
type maker struct{ *rand.Rand }

func newMaker(seed uint64) maker { return maker{rand.New(rand.NewPCG(22, seed))} }

// command is one that may be.
func (m maker) command() []string {
	l := make([]string, 1+m.IntN(4))
	for i := range l {
		l[i] = text(m.IntN(9))
	}
	return l
}

// near is a number near others, or any at an end.
func (m maker) near(l ...int) int {
	if m.IntN(12) == 0 {
		return ends[m.IntN(len(ends))]
	}
	return l[m.IntN(len(l))] + m.IntN(3) - 1
}

// link is mostly one of a few, often one that is there.
func (m maker) link(p *pair) int {
	if l := p.lead.Links(); len(l) > 0 && m.IntN(3) > 0 {
		return l[m.IntN(len(l))]
	}
	return m.near(-3, 0, 3, 6, 9)
}

// id is an ID's text, or none.
func (m maker) id(p *pair) string {
	h := p.model.h
	switch m.IntN(10) {
	case 0:
		return []string{"?", "", "0000000000000000", "000000000000000A", long}[m.IntN(5)]
	case 1, 2:
		return idText(m.Uint64N(6))
	case 3, 4, 5:
		return idText(h.Second)
	default:
		return idText(h.ID)
	}
}

// offset is a number's text, or none.
func (m maker) offset(p *pair) string {
	h := p.model.h
	if m.IntN(12) == 0 {
		return []string{"", "?", "-1", "01", "+1", "-0", "1 ", "9223372036854775808"}[m.IntN(8)]
	}
	first := p.model.first()
	return strconv.Itoa(m.near(first, h.Fork, h.Offset, first+m.IntN(h.Offset-first+1)))
}

// image is a store, or none that may be.
func (m maker) image() []api.Entry {
	return [][]api.Entry{nil, store, store[:2], noStore}[m.IntN(4)]
}

// step is a call of those that feed, send and acknowledge.
func (m maker) step(p *pair) {
	end := p.model.h.Offset
	link := m.link(p)
	switch m.IntN(12) {
	case 0:
		p.raw(text(m.IntN(30)))
	case 1:
		p.feed(m.command())
	case 2, 3:
		p.psync(link, m.id(p), m.offset(p), m.image())
	case 4, 5, 6:
		p.out(link, max(1, m.near(1, 2, 20, 60)))
	case 7, 8, 9, 10:
		next, acked, _ := p.lead.Link(link)
		p.ack(link, m.near(next, acked, end, next/2))
	default:
		if m.IntN(3) == 0 {
			p.drop(link)
		}
	}
}

// any is a call of any kind.
func (m maker) any(p *pair, clients int, now *int) {
	first, end := p.model.first(), p.model.h.Offset
	switch m.IntN(16) {
	case 0:
		p.fork(m.Uint64N(6))
	case 1:
		if m.IntN(6) == 0 {
			p.follow(m.Uint64N(6), m.near(0, end, first, 50, api.MaxOffset-60))
		}
	case 2:
		p.feed(m.command(), m.command(), []string{}, m.command())
	case 3:
		p.out(m.link(p), m.near(0, 1, 5, 100))
	case 4, 5, 6:
		p.wait(m.IntN(clients), m.near(0, first, end, (first+end)/2), m.near(0, 1, 2, 3), m.near(0, 0, *now, *now+20))
	case 7:
		p.leave(m.IntN(clients))
	case 8, 9:
		*now += m.IntN(5)
		p.done(m.near(*now, *now-10, 0))
	case 10:
		p.count(m.near(-1, 0, first, end))
	default:
		m.step(p)
	}
}

// Long rows of calls of all kinds, with few clients that wait, and with many.
func TestRowsOfCalls(t *testing.T) {
	t.Parallel()
	for seed := range uint64(600) {
		m := newMaker(3000 + seed)
		p := made(t, 1+m.IntN(150), 1+m.Uint64N(5))
		now := 0
		for range 400 {
			m.any(p, []int{3, 10, 40}[seed%3], &now)
		}
		p.holds()
		p.forgets()
	}
}

func TestRowsOfCallsOfManyClients(t *testing.T) {
	t.Parallel()
	for seed := range uint64(4) {
		m := newMaker(4000 + seed)
		p := made(t, 1+m.IntN(3000), 1+m.Uint64N(5))
		now := 0
		p.raw(text(100))
		for number := range api.MaxWaits - 20 {
			p.ok(p.wait(-1-number, m.IntN(101), 7+m.IntN(3), m.IntN(2)*m.IntN(3000)))
		}
		for range 3000 {
			m.any(p, 1200, &now)
		}
		p.holds()
		p.forgets()
	}
}

// At the offset's end.
func TestRowsOfCallsNearMaxOffset(t *testing.T) {
	t.Parallel()
	for seed := range uint64(100) {
		m := newMaker(5000 + seed)
		p := made(t, 1+m.IntN(150), 1)
		p.ok(p.follow(3, api.MaxOffset-m.IntN(900)))
		now := 0
		for range 300 {
			m.any(p, 10, &now)
		}
		p.holds()
		p.forgets()
	}
}
