package space

import (
	"slices"

	"millpond/api"
)

// next is the draw behind a draw.
func next(draw uint64) uint64 { return draw*6364136223846793005 + 1442695040888963407 }

// place is the one among n that a draw tells.
func place(draw uint64, n int) int { return int(draw % uint64(n)) }

// all are all keys, rising: the stream sees them, over or not.
func (s *Space) all() []string { return s.Keys(api.Call{Role: api.RoleStream}) }

// sees tells whether a call sees a key.
func (s *Space) sees(c api.Call, key string) bool {
	h, there := s.table().Look(key)
	return there && h.isSeen(c)
}

// pickAgain picks one of all keys, draw by draw, until the call sees it; those that it doesn't see are taken out.
func (s *Space) pickAgain(c api.Call, keys []string) (string, bool, [][]string) {
	var told [][]string
	for draw := c.Draw; len(keys) > 0; draw = next(draw) {
		at := place(draw, len(keys))
		if s.sees(c, keys[at]) {
			return keys[at], true, told
		}
		told = append(told, s.takeOut(keys[at]))
		keys = slices.Delete(keys, at, at+1)
	}
	return "", false, told
}

// pickNext picks one of all keys, or the next one behind it, going round, that the call sees.
func (s *Space) pickNext(c api.Call, keys []string) (string, bool) {
	for i := range keys {
		key := keys[(place(c.Draw, len(keys))+i)%len(keys)]
		if s.sees(c, key) {
			return key, true
		}
	}
	return "", false
}
