package image

import (
	"strings"

	"millpond/api"
)

// mayStand tells whether an image may have an entry.
func mayStand(e api.Entry) bool {
	return isShort(e.Key) && mayBe(e.V) && (e.At == api.Never || e.At >= 0 && e.At <= api.MaxTime)
}

// mayBe tells whether a value may be. What its kind names must be all that it has.
func mayBe(v api.Value) bool {
	all := len(v.S) + len(v.L) + len(v.Z) + len(v.H)
	switch v.Kind {
	case api.KString:
		return all == len(v.S) && isShort(v.S)
	case api.KSet: // a list whose items rise
		if !rises(v.L, strings.Compare) {
			return false
		}
		fallthrough
	case api.KList:
		return all == len(v.L) && isCount(all) && every(v.L, isShort)
	case api.KZset:
		return all == len(v.Z) && isCount(all) && areMembers(v.Z)
	case api.KHash:
		return all == len(v.H) && isCount(all) && areFields(v.H)
	default:
		return false
	}
}

// areMembers tells whether a sorted set may have some members.
func areMembers(l []api.Scored) bool {
	short := every(l, func(m api.Scored) bool { return isShort(m.M) })
	return short && rises(l, byScore) && areOnce(l)
}

// areOnce tells whether each member comes once: two alike with two scores may stand far from each other.
func areOnce(l []api.Scored) bool {
	seen := make(map[string]struct{}, len(l))
	for _, m := range l {
		seen[m.M] = struct{}{}
	}
	return len(seen) == len(l)
}

// areFields tells whether a hash may have some fields.
func areFields(l []api.Field) bool {
	short := every(l, func(f api.Field) bool { return isShort(f.F) && isShort(f.V) })
	return short && rises(l, by(nameOf))
}

// isShort tells whether a text has no more bytes than may be.
func isShort(s string) bool { return len(s) <= api.MaxBulk }

// isCount tells whether a value may have so many items.
func isCount(n int) bool { return n >= 1 && n <= api.MaxLen }
