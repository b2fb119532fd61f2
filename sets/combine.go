package sets

import (
	"slices"

	"millpond/api"
	"millpond/work"
)

// way is how several sets are made one.
type way func(l ...[]string) ([]string, api.Errno)

// combine does SUNION, SINTER and SDIFF, and, if it stores, SUNIONSTORE, SINTERSTORE and SDIFFSTORE.
func combine(w *work.Work, one way, stores bool) api.Reply {
	if stores {
		return store(w, one)
	}
	l, ok := setsOf(w, w.Args[1:]...)
	if !ok {
		return work.Error(work.Wrong)
	}
	made, _ := one(l...)
	return bulks(made...)
}

// setsOf are the sets of some keys, each of which is looked at, in order; ok: none has another kind.
func setsOf(w *work.Work, keys ...string) (l [][]string, ok bool) {
	looked := map[string]set{} // a great set that is named often is copied once
	ok = true
	for _, key := range keys {
		s, again := looked[key]
		if !again {
			s = look(w, key)
			looked[key] = s
		}
		l = append(l, s.members)
		ok = ok && !s.other
	}
	return l, ok
}

// store does SUNIONSTORE, SINTERSTORE and SDIFFSTORE.
func store(w *work.Work, one way) api.Reply {
	l, ok := setsOf(w, w.Args[2:]...)
	to := look(w, w.Args[1])
	if !ok {
		return work.Error(work.Wrong)
	}
	made, _ := one(l...)
	if !to.isJust(w, made...) {
		if wrong := put(w, to.key, api.Never, made...); wrong != "" {
			return work.Error(wrong)
		}
		if to.there {
			w.Tell("DEL", to.key)
		}
		tellRow(w, "SADD", to.key, made...)
	}
	return work.Int(int64(len(made)))
}

// isJust tells whether a key has just these members, and ends never; of none: whether it is not there.
func (s set) isJust(w *work.Work, l ...string) bool {
	return !s.other && slices.Equal(s.members, l) && w.End(s.key, s.there) == api.Never
}
