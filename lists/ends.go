package lists

import (
	"slices"

	"millpond/api"
	"millpond/number"
	"millpond/work"
)

// push does LPUSH, RPUSH, LPUSHX and RPUSHX.
func push(w *work.Work, to side, onlyOld bool) api.Reply {
	key, items := w.Args[1], w.Args[2:]
	l := look(w, key)
	if onlyOld && !l.there {
		return work.Int(0)
	}
	for _, item := range items {
		to.push(l, item)
	}
	l.lay(w)
	w.Tell(append([]string{to.name("PUSH"), key}, items...)...)
	return work.Int(int64(l.Len()))
}

// pop does LPOP and RPOP.
func pop(w *work.Work, from side) api.Reply {
	if len(w.Args) > 3 {
		return w.Arguments()
	}
	if len(w.Args) == 3 {
		return popSome(w, from, work.CountOf(w.Args[2]))
	}
	l := look(w, w.Args[1])
	if !l.there {
		return work.Bulk("", false)
	}
	item := from.pop(l)
	l.lay(w)
	w.Tell(from.name("POP"), l.key)
	return work.Bulk(item, true)
}

// popSome does LPOP and RPOP with a count.
func popSome(w *work.Work, from side, most int64) api.Reply {
	l := look(w, w.Args[1])
	if !l.there {
		return api.Reply{Kind: api.RNilArray}
	}
	n := min(most, int64(l.Len()))
	var items []api.Reply
	for range n {
		items = append(items, work.Bulk(from.pop(l), true))
	}
	if n > 0 {
		l.lay(w)
		w.Tell(from.name("POP"), l.key, number.Text(n))
	}
	return work.Array(items)
}

// move does LMOVE and RPOPLPUSH.
func move(w *work.Work, from, to side) api.Reply {
	l := look(w, w.Args[1])
	if !l.there {
		return work.Bulk("", false)
	}
	if w.Args[2] == l.key {
		return turn(w, l, from, to)
	}
	other := look(w, w.Args[2])
	item := from.pop(l)
	to.push(other, item)
	layBoth(w, l, other)
	tellMove(w, from, to)
	return work.Bulk(item, true)
}

// turn moves an item within one list.
func turn(w *work.Work, l list, from, to side) api.Reply {
	was := l.List()
	item := from.pop(l)
	to.push(l, item)
	if !slices.Equal(l.List(), was) {
		l.lay(w)
		tellMove(w, from, to)
	}
	return work.Bulk(item, true)
}

// tellMove tells that an item was moved.
func tellMove(w *work.Work, from, to side) {
	w.Tell("LMOVE", w.Args[1], w.Args[2], string(from), string(to))
}

// layBoth lays a list out of which an item went, and the one that has it now. A list without items goes first, as the other one may stand in its place; else the other one, for which there may be no room.
func layBoth(w *work.Work, from, to list) {
	to.mustFit()
	first, second := to, from
	if from.Len() == 0 {
		first, second = from, to
	}
	first.lay(w)
	second.lay(w)
}
