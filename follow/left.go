package follow

import (
	"bytes"

	"millpond/api"
)

// cut is that a link brings what may not come: reading panics with it.
type cut struct{}

// must: the link is cut where something does not hold.
func must(holds bool) {
	if !holds {
		panic(cut{})
	}
}

// lineEnd is what stands behind a line.
const lineEnd = "\r\n"

// left are the bytes that came and were not done yet.
type left []byte

// put: bytes behind those that are there.
func (l *left) put(b []byte) { *l = append(*l, b...) }

// take passes over n bytes, which are there.
func (l *left) take(n int) []byte {
	b := (*l)[:n]
	*l = (*l)[n:]
	return b
}

// letGo leaves nothing in memory of what was passed over.
func (l *left) letGo() { *l = append(left(nil), *l...) }

// line is the first line, without its end, if it is whole; it is not passed over.
func (l *left) line() (string, bool) {
	near := (*l)[:min(len(*l), api.MaxLine+len(lineEnd))]
	i := bytes.Index(near, []byte(lineEnd))
	must(i >= 0 || len(near) == len(*l))
	if i < 0 {
		return "", false
	}
	return string(near[:i]), true
}
