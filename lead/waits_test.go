package lead_test

import (
	"fmt"
	"testing"

	"millpond/api"
)

// P22.4: Count

func TestCount(t *testing.T) {
	p := busy(t)
	for _, x := range []struct{ offset, want int }{
		{least, 3}, {least + 1, 3}, {-2, 3}, {-1, 3}, {0, 3}, {1, 2}, {34, 2}, {35, 2}, {36, 1}, {89, 1}, {90, 1}, {91, 0}, {api.MaxOffset, 0}, {greatest - 1, 0}, {greatest, 0},
	} {
		if n := p.count(x.offset); n != x.want {
			t.Errorf("Count(%d) = %d, want %d", x.offset, n, x.want)
		}
	}
	p.ok(p.ack(-5, 0))
	for offset, want := range map[int]int{-1: 4, 0: 4, 1: 2} {
		if n := p.count(offset); n != want {
			t.Errorf("Count(%d) = %d, want %d", offset, n, want)
		}
	}
	p.drop(greatest)
	p.drop(least)
	for offset, want := range map[int]int{-1: 2, 0: 2, 1: 1, 35: 1, 36: 0} {
		if n := p.count(offset); n != want {
			t.Errorf("Count(%d) = %d, want %d", offset, n, want)
		}
	}
}

func TestCountOfThoseThatAcknowledgedNothing(t *testing.T) {
	p := made(t, 40, 1)
	for link := range api.MaxLinks {
		p.asks(link, 1, 0, true)
	}
	for _, offset := range ends {
		if n := p.count(offset); n != 0 {
			t.Errorf("Count(%d) = %d", offset, n)
		}
	}
	for link := range api.MaxLinks {
		p.ok(p.ack(link, 0))
		for offset, want := range map[int]int{least: link + 1, -1: link + 1, 0: link + 1, 1: 0, greatest: 0} {
			if n := p.count(offset); n != want {
				t.Errorf("Count(%d) = %d, want %d", offset, n, want)
			}
		}
	}
}

// P22.4: Wait

// numbers are those of clients.
var numbers = []int{least, -1, 0, 1, 77, greatest}

func TestWait(t *testing.T) {
	for _, number := range numbers {
		for _, offset := range append(ends, 49, 89, 90, 91, api.MaxOffset, api.MaxOffset+1) {
			for _, n := range append(ends, 3, 9) {
				for _, deadline := range append(ends, 5, api.MaxTime+1) {
					p := busy(t)
					p.forgets()
					want := api.OK
					switch {
					case n < 0 || deadline < 0:
						want = api.ErrArg
					case offset < 0 || offset > 90:
						want = api.ErrRange
					}
					p.refused(p.wait(number, offset, n, deadline), want)
					if waits := p.leave(number); waits != (want == api.OK) {
						t.Fatalf("Wait(%d, %d, %d, %d) = %v, it waits: %t", number, offset, n, deadline, want, waits)
					}
				}
			}
		}
	}
}

// Of the errors that hold at once the first one is told; and nothing changes.
func TestFirstErrorOfWait(t *testing.T) {
	for _, many := range []bool{false, true} {
		p := made(t, 40, 1)
		p.ok(p.raw(text(20)))
		p.ok(p.wait(5, 20, 1, 0))
		if many {
			for number := range api.MaxWaits - 1 {
				p.ok(p.wait(1000+number, 20, 1, 0))
			}
		}
		for _, number := range []int{5, 6} {
			for _, offset := range []int{least, -1, 0, 20, 21, greatest} {
				for _, n := range []int{least, -1, 0, 1} {
					for _, deadline := range []int{least, -1, 0, 1} {
						want := api.OK
						switch {
						case n < 0 || deadline < 0:
							want = api.ErrArg
						case offset < 0 || offset > 20:
							want = api.ErrRange
						case number == 5:
							want = api.ErrWait
						case many:
							want = api.ErrMany
						}
						p.refused(p.wait(number, offset, n, deadline), want)
						if want == api.OK {
							p.leave(number)
						}
					}
				}
			}
		}
		if l := p.done(greatest); len(l) > 0 {
			t.Errorf("Done = %v", l)
		}
		p.forgets()
	}
}

// As many as may wait; behind Leave, and behind Done, there is room for as many as are gone.
func TestMaxWaits(t *testing.T) {
	p := made(t, 40, 1)
	p.ok(p.raw("abc"))
	fill := func(from int) {
		t.Helper()
		for number := from; len(p.model.row) < api.MaxWaits; number++ {
			p.ok(p.wait(number, number%4, number%3, number%5))
		}
		for _, number := range []int{least, -1, 99999, greatest} {
			p.refused(p.wait(number, 0, 0, 0), api.ErrMany)
		}
		for _, c := range []int{0, 1, 511, 1022, 1023} {
			p.refused(p.wait(p.model.row[c].client, 0, 0, 0), api.ErrWait)
		}
	}
	fill(0)
	if !p.leave(500) || p.leave(500) {
		t.Error("Leave(500)")
	}
	fill(2000)
	for number := 100; number < 200; number++ {
		p.leave(number)
	}
	fill(3000)
	for now := -1; now < 6; now++ {
		l := p.done(now)
		if again := p.done(now); len(again) > 0 || len(l) > 0 && now == -1 && l[0].Client != 0 {
			t.Fatalf("Done(%d) = %v, and again %v", now, l, again)
		}
		fill(10000 * (now + 2))
	}
	for len(p.model.links) < 3 {
		p.asks(len(p.model.links), 1, 3, true)
		p.ok(p.ack(len(p.model.links)-1, 3))
	}
	if l := p.done(0); len(l) != api.MaxWaits {
		t.Errorf("Done(0) tells %d", len(l))
	}
	fill(0)
}

// P22.4: Leave

func TestLeave(t *testing.T) {
	for gone := range 5 {
		p := made(t, 40, 1)
		for number := range 5 {
			p.ok(p.wait(number*10, 0, 1, 1+number))
		}
		for _, none := range []int{least, -10, -1, 1, 5, 41, greatest} {
			if p.leave(none) {
				t.Errorf("Leave(%d)", none)
			}
		}
		if !p.leave(gone*10) || p.leave(gone*10) {
			t.Errorf("Leave(%d) of one that waits once", gone*10)
		}
		p.ok(p.wait(gone*10, 0, 1, 1)) // behind all others now
		var want []api.Waited
		for number := range 5 {
			if number != gone {
				want = append(want, api.Waited{Client: number * 10})
			}
		}
		p.tells(9, append(want, api.Waited{Client: gone * 10})...)
		if p.leave(gone * 10) {
			t.Error("Leave of one that was told")
		}
		p.ok(p.wait(gone*10, 0, 0, 0))
		p.tells(0, api.Waited{Client: gone * 10})
	}
}

// P22.4: Done

// acked is a lead of the offset 30 of which three links acknowledged 10, 20 and 30, one 0 and one nothing.
func acked(t *testing.T) *pair {
	t.Helper()
	p := made(t, 40, 1)
	p.ok(p.raw(text(30)))
	for link, offset := range []int{10, 20, 30, 0} {
		p.asks(link, 1, 30, true)
		p.ok(p.ack(link, offset))
	}
	p.asks(4, 1, 30, true)
	return p
}

// Each number about Count, each deadline about now: who is told, and with which Count.
func TestDoneOfOne(t *testing.T) {
	for offset, count := range map[int]int{0: 4, 1: 3, 10: 3, 11: 2, 20: 2, 21: 1, 29: 1, 30: 1} {
		for _, n := range []int{0, 1, count - 1, count, count + 1, count + 2, greatest} {
			for _, now := range []int{least, -1, 0, 1, 99, 100, 101, api.MaxTime, greatest} {
				for _, deadline := range []int{0, 1, now - 1, now, now + 1, 100, greatest} {
					if deadline < 0 {
						continue
					}
					p := acked(t)
					p.ok(p.wait(7, offset, n, deadline))
					name := fmt.Sprintf("Wait(7, %d, %d, %d), Done(%d)", offset, n, deadline, now)
					l := p.done(now)
					if told := n <= count || deadline > 0 && deadline <= now; told != (len(l) == 1) || told && l[0] != (api.Waited{Client: 7, Count: count}) {
						t.Fatalf("%s = %v", name, l)
					}
					if again := p.done(now); len(again) > 0 {
						t.Fatalf("%s again = %v", name, again)
					}
					if waits := p.leave(7); waits != (len(l) == 0) {
						t.Fatalf("%s: it waits: %t", name, waits)
					}
				}
			}
		}
	}
}

func TestDoneInOrder(t *testing.T) {
	p := acked(t)
	for i, number := range []int{9, -3, 5, 5000, least, 6, 0, greatest} {
		p.ok(p.wait(number, 15, i%4, (i%3)*50))
	}
	p.tells(49, api.Waited{Client: 9, Count: 2}, api.Waited{Client: -3, Count: 2}, api.Waited{Client: 5, Count: 2}, api.Waited{Client: least, Count: 2}, api.Waited{Client: 6, Count: 2}, api.Waited{Client: 0, Count: 2})
	p.tells(49)
	p.tells(50, api.Waited{Client: greatest, Count: 2})
	p.tells(greatest)
	p.ok(p.ack(0, 14))
	p.tells(0)
	p.ok(p.ack(4, 15))
	p.tells(0, api.Waited{Client: 5000, Count: 3})
	p.tells(greatest)
}

// Those that are left keep their order, whoever goes between them.
func TestDoneLeavesTheirOrder(t *testing.T) {
	const all = 6
	for told := range 1 << all { // each set of them
		p := made(t, 40, 1)
		var first, rest []api.Waited
		for number := range all {
			deadline := 200
			if told>>number&1 == 1 {
				deadline = 100
				first = append(first, api.Waited{Client: 50 - number})
			} else {
				rest = append(rest, api.Waited{Client: 50 - number})
			}
			p.ok(p.wait(50-number, 0, 1, deadline))
		}
		p.tells(99)
		p.tells(150, first...)
		p.ok(p.wait(1, 0, 0, 0))
		p.tells(200, append(rest, api.Waited{Client: 1})...)
		p.tells(greatest)
	}
}

// A link that goes, or that asks again, is no longer counted.
func TestDoneBehindDrop(t *testing.T) {
	p := acked(t)
	p.drop(2)
	p.asks(1, 1, 30, true)
	p.ok(p.wait(1, 30, 1, 0))
	p.ok(p.wait(2, 20, 1, 0))
	p.ok(p.wait(3, 10, 1, 0))
	p.tells(0, api.Waited{Client: 3, Count: 1})
	p.ok(p.ack(1, 25))
	p.tells(0, api.Waited{Client: 2, Count: 1})
	p.ok(p.ack(4, 30))
	p.tells(0, api.Waited{Client: 1, Count: 1})
}

// P22.7: each that waits is told once, with at least its number, or when its deadline went by; none is left that could be told.
func TestEachIsToldOnce(t *testing.T) {
	t.Parallel()
	for seed := range uint64(300) {
		m := newMaker(2000 + seed)
		p := made(t, 1+m.IntN(200), 1)
		waiting := map[int]client{}
		now, told := 0, 0
		for range 200 {
			switch m.IntN(4) {
			case 0:
				c := client{m.IntN(40), m.IntN(p.lead.State().Offset + 1), m.IntN(4), m.IntN(2) * (now + m.IntN(50))}
				if p.wait(c.client, c.offset, c.n, c.deadline) == api.OK {
					waiting[c.client] = c
				}
			case 1:
				now += m.IntN(10)
				for _, w := range p.done(now) {
					c, there := waiting[w.Client]
					if !there || w.Count != p.lead.Count(c.offset) || w.Count < c.n && (c.deadline == 0 || c.deadline > now) {
						t.Fatalf("Done(%d) tells %v of %v", now, w, c)
					}
					delete(waiting, w.Client)
					told++
				}
				for _, c := range waiting {
					if p.lead.Count(c.offset) >= c.n || c.deadline > 0 && c.deadline <= now {
						t.Fatalf("Done(%d) leaves %v", now, c)
					}
				}
			case 2:
				number := m.IntN(120)
				if _, there := waiting[number]; p.leave(number) != there {
					t.Fatalf("Leave(%d) of one that waits: %t", number, there)
				}
				delete(waiting, number)
			default:
				m.step(p)
			}
		}
		if told == 0 {
			t.Error("nobody was told")
		}
		for number := range 120 {
			if _, there := waiting[number]; p.leave(number) != there {
				t.Fatalf("Leave(%d) of one that waits: %t", number, there)
			}
		}
	}
}
