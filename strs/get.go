package strs

import (
	"millpond/api"
	"millpond/number"
	"millpond/work"
)

// get does GET and GETDEL.
func get(w *work.Work, takesOut bool) api.Reply {
	key := w.Args[1]
	s, there, ok := text(w, key)
	if !ok {
		return work.Error(work.Wrong)
	}
	if there && takesOut {
		w.Space.Del(key)
		w.Tell("DEL", key)
	}
	return work.Bulk(s, there)
}

// getMany does MGET.
func getMany(w *work.Work) api.Reply {
	var l []api.Reply
	for _, key := range w.Args[1:] {
		s, there, ok := text(w, key)
		l = append(l, work.Bulk(s, there && ok))
	}
	return work.Array(l)
}

// length does STRLEN.
func length(w *work.Work) api.Reply {
	s, _, ok := text(w, w.Args[1])
	if !ok {
		return work.Error(work.Wrong)
	}
	return work.Int(int64(len(s)))
}

// getRange does GETRANGE.
func getRange(w *work.Work) api.Reply {
	first, e := number.Parse(w.Args[2])
	last, wrong := number.Parse(w.Args[3])
	if e != api.OK || wrong != api.OK {
		return work.Error(work.Number)
	}
	s, _, ok := text(w, w.Args[1])
	if !ok {
		return work.Error(work.Wrong)
	}
	from, to := number.Range(first, last, len(s))
	return work.Bulk(s[from:to], true)
}
