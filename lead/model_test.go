package lead_test

import (
	"fmt"
	"slices"
	"strconv"
	"strings"

	"millpond/api"
	"millpond/snapshot"
)

// The model: all of a lead in plain rows, and the stream's last bytes in one text

// place is a link, and how far its replica is.
type place struct{ link, next, acked int }

// client is one that waits.
type client struct{ client, offset, n, deadline int }

type model struct {
	size  int
	h     api.History
	there string
	links []place  // rising
	row   []client // in the order in which they came
}

func (m *model) first() int { return m.h.Offset - len(m.there) }

func (m *model) raw(b string) api.Errno {
	if m.h.Offset+len(b) > 1<<50 {
		return api.ErrLong
	}
	m.h.Offset += len(b)
	m.there += b
	m.there = m.there[max(0, len(m.there)-m.size):]
	return api.OK
}

func (m *model) feed(l [][]string) api.Errno {
	var b strings.Builder
	for _, args := range l {
		if len(args) == 0 || len(args) > 1024 {
			return api.ErrMany
		}
		if slices.ContainsFunc(args, func(s string) bool { return len(s) > 65536 }) {
			return api.ErrLong
		}
		b.WriteString(cmd(args...))
	}
	return m.raw(b.String())
}

func (m *model) fork(id uint64) api.Errno {
	if id == 0 || id == m.h.ID {
		return api.ErrRing
	}
	m.h = api.History{ID: id, Offset: m.h.Offset, Second: m.h.ID, Fork: m.h.Offset}
	return api.OK
}

func (m *model) follow(id uint64, offset int) api.Errno {
	if id == 0 || offset < 0 || offset > 1<<50 {
		return api.ErrRing
	}
	m.h, m.there, m.links = api.History{ID: id, Offset: offset}, "", nil
	return api.OK
}

// find is where a link stands, -1, if it is not there.
func (m *model) find(link int) int {
	return slices.IndexFunc(m.links, func(p place) bool { return p.link == link })
}

// put puts a link in its place, instead of one with its number.
func (m *model) put(p place) {
	m.drop(p.link)
	m.links = append(m.links, p)
	slices.SortFunc(m.links, func(a, b place) int {
		if a.link < b.link {
			return -1
		}
		return 1
	})
}

// accepts is an offset from which on a replica goes on.
func (m *model) accepts(id, offset string) (int, bool) {
	its, known := idOf(id)
	n, e := strconv.Atoi(offset)
	if !known || e != nil || strconv.Itoa(n) != offset || n < m.first() || n > m.h.Offset {
		return 0, false
	}
	return n, its == m.h.ID || its == m.h.Second && n <= m.h.Fork
}

func (m *model) psync(link int, id, offset string, img []api.Entry) (string, bool, api.Errno) {
	if m.find(link) < 0 && len(m.links) == 8 {
		return "", false, api.ErrMany
	}
	if n, ok := m.accepts(id, offset); ok {
		m.put(place{link, n, -1})
		return fmt.Sprintf("+CONTINUE %016x\r\n", m.h.ID), true, api.OK
	}
	b, e := snapshot.Encode(api.History{ID: m.h.ID, Offset: m.h.Offset}, img)
	if e != api.OK {
		return "", false, e
	}
	m.put(place{link, m.h.Offset, -1})
	return fmt.Sprintf("+FULLRESYNC %016x %d\r\n$%d\r\n%s", m.h.ID, m.h.Offset, len(b), b), false, api.OK
}

func (m *model) out(link, most int) (string, api.Errno) {
	i := m.find(link)
	switch {
	case i < 0:
		return "", api.ErrLink
	case most < 1:
		return "", api.ErrArg
	case m.links[i].next < m.first():
		m.drop(link)
		return "", api.ErrOld
	}
	b := m.there[m.links[i].next-m.first():]
	b = b[:min(most, len(b))]
	m.links[i].next += len(b)
	return b, api.OK
}

func (m *model) ack(link, offset int) api.Errno {
	i := m.find(link)
	switch {
	case i < 0:
		return api.ErrLink
	case offset < 0 || offset > m.links[i].next:
		return api.ErrRange
	case offset > m.links[i].acked:
		m.links[i].acked = offset
	}
	return api.OK
}

func (m *model) drop(link int) bool {
	i := m.find(link)
	if i >= 0 {
		m.links = slices.Delete(m.links, i, i+1)
	}
	return i >= 0
}

func (m *model) count(offset int) int {
	n := 0
	for _, p := range m.links {
		if p.acked >= 0 && p.acked >= offset {
			n++
		}
	}
	return n
}

func (m *model) waits(number int) int {
	return slices.IndexFunc(m.row, func(c client) bool { return c.client == number })
}

func (m *model) wait(c client) api.Errno {
	switch {
	case c.n < 0 || c.deadline < 0:
		return api.ErrArg
	case c.offset < 0 || c.offset > m.h.Offset:
		return api.ErrRange
	case m.waits(c.client) >= 0:
		return api.ErrWait
	case len(m.row) == 1024:
		return api.ErrMany
	}
	m.row = append(m.row, c)
	return api.OK
}

func (m *model) leave(number int) bool {
	i := m.waits(number)
	if i >= 0 {
		m.row = slices.Delete(m.row, i, i+1)
	}
	return i >= 0
}

func (m *model) done(now int) []api.Waited {
	var told []api.Waited
	var rest []client
	for _, c := range m.row {
		if k := m.count(c.offset); k >= c.n || c.deadline > 0 && c.deadline <= now {
			told = append(told, api.Waited{Client: c.client, Count: k})
		} else {
			rest = append(rest, c)
		}
	}
	m.row = rest
	return told
}

// look is all that a model shows without a change.
func (m *model) look() string {
	s := fmt.Sprintf("%+v from %d to %d", m.h, m.first(), m.h.Offset)
	for _, p := range m.links {
		s += fmt.Sprintf("; %d: %d, %d, %d, %d, %d", p.link, p.next, p.acked, m.count(p.acked-1), m.count(p.acked), m.count(p.acked+1))
	}
	return s
}

func idOf(s string) (uint64, bool) {
	id, e := strconv.ParseUint(s, 16, 64)
	return id, e == nil && id != 0 && len(s) == 16 && !strings.ContainsAny(s, "ABCDEF+-_")
}
