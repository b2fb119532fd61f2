package space

import (
	"strings"

	"millpond/api"
	"millpond/image"
	"millpond/table"
)

// held is what a key has: the space's own value, and its end.
type held struct {
	v  api.Value
	at int
}

// ending is a key and its end.
type ending struct {
	key string
	at  int
}

// isOver tells whether what is held is over at a time.
func (h held) isOver(now int) bool { return h.at != api.Never && h.at <= now }

// isSeen tells whether a call sees what is held: the clock counts for the clients of a primary and of a replica alone.
func (h held) isSeen(c api.Call) bool {
	byClock := c.Role == api.RolePrimary || c.Role == api.RoleReader
	return !byClock || !h.isOver(c.Now)
}

// entry is the entry of a key; its value is the space's own still.
func (h held) entry(key string) api.Entry { return api.Entry{Key: key, V: h.v, At: h.at} }

// copied is an entry in memory of its own, as all that image tells is.
func copied(e api.Entry) api.Entry {
	own, _ := image.Find([]api.Entry{e}, e.Key)
	return own
}

// table is where the entries stand; of a space that neither New nor Load made nil, which answers zero values as the space does.
func (s *Space) table() *table.Table[held] {
	if s == nil || s.made != s {
		return nil
	}
	return s.entries
}

// keep lays an entry that may be into the space.
func (s *Space) keep(e api.Entry) { s.entries.Put(e.Key, held{copied(e).V, e.At}) }

// takeOut takes a key out; it is told so.
func (s *Space) takeOut(key string) []string {
	s.entries.Del(key)
	return []string{"DEL", strings.Clone(key)}
}

// ended are the keys that are over at a time, in any order.
func (s *Space) ended(now int) []ending {
	var l []ending
	for key, h := range s.table().All() {
		if h.isOver(now) {
			l = append(l, ending{key, h.at})
		}
	}
	return l
}
