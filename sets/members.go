package sets

import (
	"millpond/api"
	"millpond/members"
	"millpond/work"
)

// add does SADD.
func add(w *work.Work) api.Reply {
	s := look(w, w.Args[1])
	if s.other {
		return work.Error(work.Wrong)
	}
	fresh, _ := members.Less(members.Of(w.Args[2:]...), s.members)
	if len(fresh) == 0 {
		return work.Int(0)
	}
	more, _, _ := members.Add(s.members, fresh...)
	if wrong := s.lay(w, more...); wrong != "" {
		return work.Error(wrong)
	}
	tell(w, "SADD", s.key, fresh...)
	return work.Int(int64(len(fresh)))
}

// remove does SREM.
func remove(w *work.Work) api.Reply {
	s := look(w, w.Args[1])
	if s.other {
		return work.Error(work.Wrong)
	}
	had := s.among(w.Args[2:]...)
	if len(had) > 0 {
		s.takeOut(w, had...)
		tell(w, "SREM", s.key, had...)
	}
	return work.Int(int64(len(had)))
}

// among are those of some texts that are members, as a set.
func (s set) among(l ...string) []string {
	had, _ := members.Meet(members.Of(l...), s.members)
	return had
}

// takeOut takes members out of a set. There is room for those that stay.
func (s set) takeOut(w *work.Work, l ...string) {
	rest, _, _ := members.Del(s.members, l...)
	s.lay(w, rest...)
}

// has does SISMEMBER and SMISMEMBER.
func has(w *work.Work, ofOne bool) api.Reply {
	s := look(w, w.Args[1])
	if s.other {
		return work.Error(work.Wrong)
	}
	had := s.among(w.Args[2:]...) // once, as each question goes through all that it is asked of
	var l []api.Reply
	for _, m := range w.Args[2:] {
		there, _ := members.Has(had, m)
		l = append(l, truth(there))
	}
	if ofOne {
		return l[0]
	}
	return work.Array(l)
}

// truth is the reply of what is so, or is not.
func truth(is bool) api.Reply {
	if is {
		return work.Int(1)
	}
	return work.Int(0)
}

// count does SCARD.
func count(w *work.Work) api.Reply {
	s := look(w, w.Args[1])
	if s.other {
		return work.Error(work.Wrong)
	}
	return work.Int(int64(len(s.members)))
}

// all does SMEMBERS.
func all(w *work.Work) api.Reply {
	s := look(w, w.Args[1])
	if s.other {
		return work.Error(work.Wrong)
	}
	return bulks(s.members...)
}

// move does SMOVE.
func move(w *work.Work) api.Reply {
	from, to, m := look(w, w.Args[1]), look(w, w.Args[2]), w.Args[3]
	if from.other || to.other {
		return work.Error(work.Wrong)
	}
	if len(from.among(m)) == 0 {
		return work.Int(0)
	}
	if from.key == to.key {
		return work.Int(1)
	}
	more, added, _ := members.Add(to.members, m)
	if len(more) > api.MaxLen {
		return work.Error(work.Large)
	}
	isLast := len(from.members) == 1
	if isLast { // it goes first, as the other one may stand in its place
		from.takeOut(w, m)
	}
	if wrong := to.lay(w, more...); wrong != "" {
		return work.Error(wrong)
	}
	if !isLast {
		from.takeOut(w, m)
	}
	tell(w, "SREM", from.key, m)
	if added > 0 {
		tell(w, "SADD", to.key, m)
	}
	return work.Int(1)
}
