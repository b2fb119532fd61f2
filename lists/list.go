package lists

import (
	"millpond/api"
	"millpond/command"
	"millpond/deque"
	"millpond/work"
)

// list is a key's list, taken out of the space; what changes it is laid into the space again.
type list struct {
	*deque.Deque[string]
	key   string
	there bool
}

// look looks at a key, which is to have no other kind.
func look(w *work.Work, key string) list {
	v, there := w.Look(key)
	if there && v.Kind != api.KList {
		work.Fail(work.Wrong)
	}
	return list{deque.Of(v.L...), key, there}
}

// lay lays a list.
func (l list) lay(w *work.Work) {
	l.mustFit()
	if l.Len() == 0 {
		w.Space.Del(l.key)
		return
	}
	v := api.Value{Kind: api.KList, L: l.List()}
	if w.Space.Put(l.key, v, w.End(l.key, l.there)) != api.OK {
		work.Fail(work.Full)
	}
}

// mustFit ends the command, if a list has too many items.
func (l list) mustFit() {
	if l.Len() > api.MaxLen {
		work.Fail(work.Large)
	}
}

// side is an end of a list, as it is told.
type side string

const (
	left  side = "LEFT"
	right side = "RIGHT"
)

// sideOf is the side that a word names.
func sideOf(word string) side {
	switch command.Lower(word) {
	case "left":
		return left
	case "right":
		return right
	}
	panic(work.Error(work.Syntax))
}

// push puts an item at a side of a list.
func (s side) push(l list, item string) {
	if s == left {
		l.Unshift(item)
		return
	}
	l.Push(item)
}

// pop takes the item at a side of a list out; there is to be one.
func (s side) pop(l list) string {
	take := l.Pop
	if s == left {
		take = l.Shift
	}
	item, _ := take()
	return item
}

// name is the name of a command that is done at a side: its letter, and what is done.
func (s side) name(does string) string { return string(s[:1]) + does }
