package lead

import (
	"millpond/api"
	"millpond/number"
	"millpond/ring"
	"millpond/snapshot"
)

// lineEnd is what stands behind a line.
const lineEnd = "\r\n"

// Psync: a replica asks to go on.
func (l *Lead) Psync(link int, id, offset string, img []api.Entry) ([]byte, bool, api.Errno) {
	if !l.isMade() {
		return nil, false, api.ErrNil
	}
	if _, there := l.links[link]; !there && len(l.links) >= api.MaxLinks {
		return nil, false, api.ErrMany
	}
	h := l.ring.State()
	if at, ok := l.accepted(id, offset); ok {
		l.begin(link, at)
		return []byte("+CONTINUE " + ring.Text(h.ID) + lineEnd), true, api.OK
	}
	store, e := snapshot.Encode(h, img)
	if e != api.OK {
		return nil, false, e
	}
	l.begin(link, h.Offset)
	line := "+FULLRESYNC " + ring.Text(h.ID) + " " + digits(h.Offset) + lineEnd
	count := "$" + digits(len(store)) + lineEnd
	return append([]byte(line+count), store...), false, api.OK
}

// accepted is the offset that a replica tells, and whether it may go on from there.
func (l *Lead) accepted(id, offset string) (int, bool) {
	its, e := ring.Read(id)
	n, wrong := number.Parse(offset)
	return int(n), e == api.OK && wrong == api.OK && l.ring.Accepts(its, int(n))
}

// begin: a link is there, from an offset on; what was acknowledged on it before is not known of what is sent now.
func (l *Lead) begin(link, next int) {
	l.links[link] = replica{next: next, acked: nothing}
}

// digits are a number's.
func digits(n int) string { return number.Text(int64(n)) }
