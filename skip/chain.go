package skip

import (
	"cmp"
	"strings"

	"millpond/api"
)

// highest is the greatest level.
const highest = 16

// chain is members in order, with the ways through them. Places are counted from 1 on: that of the head, which stands ahead of all, is 0.
type chain struct {
	seed  uint64
	head  *node
	nodes map[string]*node // by member, without the head
	loops int              // how many go along the chain: as long as there are any, it must stay as it is
}

// node is a member, and where it leads on each of its levels.
type node struct {
	api.Scored
	back *node // the member ahead of it; of the first one nil
	ways [highest]way
}

// way leads to the next node of a level, which stands so many places further; where there is none, the span plays no part.
type way struct {
	to   *node
	span int
}

// step is a node, and its place.
type step struct {
	*node
	place int
}

// trail is, of each level, the last node that stands ahead of some place.
type trail [highest]step

// chainOf is a chain of members that stand in order.
func chainOf(seed uint64, l ...api.Scored) *chain {
	c := &chain{seed: seed, head: &node{}, nodes: make(map[string]*node, len(l))}
	var end trail
	for i := range end {
		end[i].node = c.head
	}
	for _, m := range l {
		end = c.lay(end, m)
	}
	return c
}

// lay puts a member behind a trail, and tells the trail that ends with it.
func (c *chain) lay(t trail, m api.Scored) trail {
	x := step{&node{Scored: m}, t[0].place + 1}
	if t[0].node != c.head {
		x.back = t[0].node
	}
	level := Level(c.seed, m.M)
	for i := range t {
		w := &t[i].ways[i]
		w.span++ // what stands behind the member moves up, whether it is on this level or not
		if i < level {
			next := t[i].next(i)
			x.ways[i] = way{next.node, next.place - x.place}
			*w = way{x.node, x.place - t[i].place}
			t[i] = x
		}
	}
	if next := x.ways[0].to; next != nil {
		next.back = x.node
	}
	c.nodes[m.M] = x.node
	return t
}

// next is where the way of a level leads.
func (x step) next(level int) step {
	w := x.ways[level]
	return step{w.to, x.place + w.span}
}

// find is the trail of the nodes that are ahead; none is that stands behind one that isn't.
func (c *chain) find(ahead func(x step) bool) trail {
	var t trail
	x := step{c.head, 0}
	for i := highest - 1; i >= 0; i-- {
		for y := x.next(i); y.node != nil && ahead(y); y = x.next(i) {
			x = y
		}
		t[i] = x
	}
	return t
}

// count is how many members are ahead.
func (c *chain) count(ahead func(x step) bool) int { return c.find(ahead)[0].place }

// put lays a member that is not there.
func (c *chain) put(m api.Scored) { c.lay(c.find(before(m)), m) }

// del takes a node out.
func (c *chain) del(x *node) {
	for i, s := range c.find(before(x.Scored)) {
		w := &s.ways[i]
		if w.to == x {
			*w = way{x.ways[i].to, w.span + x.ways[i].span}
		}
		w.span--
	}
	if next := x.ways[0].to; next != nil {
		next.back = x.back
	}
	delete(c.nodes, x.M)
}

// at is the node of a rank; of a rank that is none's nil.
func (c *chain) at(rank int) *node {
	if rank < 0 {
		return nil
	}
	return c.find(func(x step) bool { return x.place <= rank })[0].ways[0].to
}

// reach are the ranks of those with a score in a range: from the first one on, ahead of the other one.
func (c *chain) reach(low, high api.Bound) (int, int) {
	from := c.count(func(x step) bool { return !above(x.N, low) })
	to := c.count(func(x step) bool { return below(x.N, high) })
	return from, max(from, to)
}

// before tells of nodes whether they stand ahead of a member.
func before(m api.Scored) func(x step) bool {
	return func(x step) bool { return compare(x.Scored, m) < 0 }
}

// compare is the order of members.
func compare(a, b api.Scored) int {
	if a.N != b.N {
		return cmp.Compare(a.N, b.N)
	}
	return strings.Compare(a.M, b.M)
}

// copied is a member in memory of its own.
func copied(m api.Scored) api.Scored { return api.Scored{M: strings.Clone(m.M), N: m.N} }
