package sets

import (
	"millpond/api"
	"millpond/members"
	"millpond/number"
	"millpond/work"
)

// draw does SPOP and SRANDMEMBER.
func draw(w *work.Work, takesOut bool) api.Reply {
	if len(w.Args) > 3 {
		return work.Error(work.Syntax)
	}
	if len(w.Args) == 3 {
		return drawSome(w, takesOut)
	}
	s := look(w, w.Args[1])
	if s.other {
		return work.Error(work.Wrong)
	}
	m, there, _ := members.Pick(s.members, w.Draw)
	if there && takesOut {
		s.takeOut(w, m)
		tell(w, "SREM", s.key, m)
	}
	return work.Bulk(m, there)
}

// drawSome does SPOP and SRANDMEMBER with how many.
func drawSome(w *work.Work, takesOut bool) api.Reply {
	n, wrong := howMany(w.Args[2], takesOut)
	if wrong != "" {
		return work.Error(wrong)
	}
	s := look(w, w.Args[1])
	if s.other {
		return work.Error(work.Wrong)
	}
	l, _ := members.Some(s.members, n, w.Draw)
	if len(l) > 0 && takesOut {
		s.takeOut(w, l...)
		tellRow(w, "SREM", s.key, members.Of(l...)...)
	}
	return bulks(l...)
}

// howMany is how many members are to be drawn, by an argument; else it tells the error.
func howMany(text string, takesOut bool) (n int, wrong string) {
	many, e := number.Parse(text)
	if e != api.OK || takesOut && many < 0 {
		return 0, work.Number
	}
	if many < -api.MaxArgs {
		return 0, "ERR value is out of range"
	}
	return int(min(many, api.MaxKeys)), ""
}
