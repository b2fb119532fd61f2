package snapshot

import "millpond/api"

// fault is why bytes are no snapshot: reading panics with the first one.
type fault api.Errno

const (
	tooLong    = fault(api.ErrLong)
	noSnapshot = fault(api.ErrSnap)
	otherSum   = fault(api.ErrSum)
)

// left are the bytes that were not read yet.
type left []byte

// take passes over n bytes.
func (l *left) take(n int) []byte {
	if len(*l) < n {
		panic(noSnapshot)
	}
	b := (*l)[:n]
	*l = (*l)[n:]
	return b
}

// number passes over a number of so many bytes, the lowest one first.
func (l *left) number(size int) uint64 {
	var n uint64
	for i, c := range l.take(size) {
		n |= uint64(c) << (8 * i)
	}
	return n
}

// length passes over a number that tells how long a text is, or how many things come.
func (l *left) length() int { return int(l.number(lenSize)) }

// long passes over a number that may be below 0.
func (l *left) long() int64 { return int64(l.number(longSize)) }

// text passes over a text's bytes.
func (l *left) text() string { return string(l.take(l.length())) }
