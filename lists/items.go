package lists

import (
	"slices"

	"millpond/api"
	"millpond/command"
	"millpond/deque"
	"millpond/number"
	"millpond/work"
)

// length does LLEN.
func length(w *work.Work) api.Reply {
	return work.Int(int64(look(w, w.Args[1]).Len()))
}

// itemsOf does LRANGE.
func itemsOf(w *work.Work) api.Reply {
	first, last := work.NumberOf(w.Args[2]), work.NumberOf(w.Args[3])
	l := look(w, w.Args[1])
	from, to := number.Range(first, last, l.Len())
	var items []api.Reply
	for _, item := range l.List()[from:to] {
		items = append(items, work.Bulk(item, true))
	}
	return work.Array(items)
}

// itemAt does LINDEX.
func itemAt(w *work.Work) api.Reply {
	n := work.NumberOf(w.Args[2])
	l := look(w, w.Args[1])
	i, ok := number.Place(n, l.Len())
	if !ok {
		return work.Bulk("", false)
	}
	item, _ := l.At(i)
	return work.Bulk(item, true)
}

// set does LSET.
func set(w *work.Work) api.Reply {
	n, item := work.NumberOf(w.Args[2]), w.Args[3]
	l := look(w, w.Args[1])
	if !l.there {
		work.Fail(work.NoKey)
	}
	i, ok := number.Place(n, l.Len())
	if !ok {
		work.Fail(work.Index)
	}
	if was, _ := l.At(i); was != item {
		l.Set(i, item)
		l.lay(w)
		w.TellAsIs()
	}
	return work.OK()
}

// remove does LREM.
func remove(w *work.Work) api.Reply {
	n, item := work.NumberOf(w.Args[2]), w.Args[3]
	l := look(w, w.Args[1])
	had := l.Len()
	l.Deque = without(l, item, n)
	gone := had - l.Len()
	if gone > 0 {
		l.lay(w)
		w.TellAsIs()
	}
	return work.Int(int64(gone))
}

// without is a list without those of its items that LREM takes out. It goes from the end that n names, and what it keeps is laid from there on.
func without(l list, item string, n int64) *deque.Deque[string] {
	kept := deque.Of[string]()
	walk, keep, most := l.All(), kept.Push, int64(l.Len())
	if n < 0 {
		walk, keep = l.Back(), kept.Unshift
		most = -max(n, -most)
	} else if n > 0 {
		most = n
	}
	for _, one := range walk {
		if one == item && most > 0 {
			most--
			continue
		}
		keep(one)
	}
	return kept
}

// trim does LTRIM.
func trim(w *work.Work) api.Reply {
	first, last := work.NumberOf(w.Args[2]), work.NumberOf(w.Args[3])
	l := look(w, w.Args[1])
	from, to := number.Range(first, last, l.Len())
	if to-from < l.Len() {
		l.Trim(from, to)
		l.lay(w)
		w.TellAsIs()
	}
	return work.OK()
}

// insert does LINSERT.
func insert(w *work.Work) api.Reply {
	by, item := w.Args[3], w.Args[4]
	behind := placesBehind(w.Args[2])
	l := look(w, w.Args[1])
	if !l.there {
		return work.Int(0)
	}
	i := slices.Index(l.List(), by)
	if i < 0 {
		return work.Int(-1)
	}
	l.Insert(i+behind, item)
	l.lay(w)
	w.TellAsIs()
	return work.Int(int64(l.Len()))
}

// placesBehind is how far behind the place of an item another one goes by a word.
func placesBehind(word string) int {
	switch command.Lower(word) {
	case "before":
		return 0
	case "after":
		return 1
	}
	panic(work.Error(work.Syntax))
}
