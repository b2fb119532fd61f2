package lead

import (
	"bytes"
	"iter"
	"maps"
	"slices"

	"millpond/api"
)

// nothing is what a link acknowledged that acknowledged nothing so far.
const nothing = -1

// replica is how far the one on a link is.
type replica struct {
	next  int // the first offset that was not sent to it
	acked int
}

// Out: the next bytes for a link.
func (l *Lead) Out(link, most int) ([]byte, api.Errno) {
	r, e := l.at(link)
	if e != api.OK {
		return nil, e
	}
	if most < 1 {
		return nil, api.ErrArg
	}
	if first, _ := l.ring.Window(); r.next < first { // it is never above the end
		delete(l.links, link)
		return nil, api.ErrOld
	}
	b := firstOf(l.ring.Pieces(r.next, most))
	r.next += len(b)
	l.links[link] = r
	return b, api.OK
}

// Ack: a link has acknowledged an offset.
func (l *Lead) Ack(link, offset int) api.Errno {
	r, e := l.at(link)
	if e != api.OK {
		return e
	}
	if offset < 0 || offset > r.next {
		return api.ErrRange
	}
	r.acked = max(r.acked, offset)
	l.links[link] = r
	return api.OK
}

// Drop: a link is gone.
func (l *Lead) Drop(link int) bool {
	_, e := l.at(link)
	if e != api.OK {
		return false
	}
	delete(l.links, link)
	return true
}

// Links: all of them.
func (l *Lead) Links() []int {
	if !l.isMade() {
		return nil
	}
	return slices.Sorted(maps.Keys(l.links))
}

// Link: a link's next, and what it acknowledged.
func (l *Lead) Link(link int) (int, int, bool) {
	r, e := l.at(link)
	return r.next, r.acked, e == api.OK
}

// Count: how many links acknowledged an offset.
func (l *Lead) Count(offset int) int {
	if !l.isMade() {
		return 0
	}
	count := 0
	for _, r := range l.links {
		if r.acked != nothing && r.acked >= offset {
			count++
		}
	}
	return count
}

// at is a link, if it is there.
func (l *Lead) at(link int) (replica, api.Errno) {
	if !l.isMade() {
		return replica{}, api.ErrNil
	}
	r, there := l.links[link]
	if !there {
		return replica{}, api.ErrLink
	}
	return r, api.OK
}

// firstOf is the first one of pieces, if there is any.
func firstOf(pieces iter.Seq2[int, []byte]) []byte {
	for _, b := range pieces {
		return bytes.Clone(b) // those behind it stand in its memory, and would stay with it
	}
	return nil
}
