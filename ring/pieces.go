package ring

import (
	"iter"

	"millpond/api"
)

// From are the bytes behind an offset.
func (r *Ring) From(offset int) ([]byte, api.Errno) {
	if !r.isMade() {
		return nil, api.ErrNil
	}
	if !r.has(offset) {
		return nil, api.ErrOld
	}
	return r.last.tail(r.history.Offset - offset), api.OK
}

// Pieces are these, at most so many at once.
func (r *Ring) Pieces(offset, most int) iter.Seq2[int, []byte] {
	return func(yield func(int, []byte) bool) {
		rest, e := r.From(offset) // all at once: the ring may be fed ahead of the last piece
		if e != api.OK || most < 1 {
			return
		}
		for at := offset; len(rest) > 0; {
			n := min(most, len(rest))
			piece := rest[:n:n] // with no room behind it: there the next one stands
			if !yield(at, piece) {
				return
			}
			at, rest = at+n, rest[n:]
		}
	}
}
