package keys

import (
	"millpond/api"
	"millpond/glob"
	"millpond/work"
)

// matching does KEYS.
func matching(w *work.Work) api.Reply {
	var l []api.Reply
	for _, key := range glob.Filter(w.Args[1], w.Space.Keys(w.Call)...) {
		l = append(l, work.Bulk(key, true))
	}
	return work.Array(l)
}

// pick does RANDOMKEY.
func pick(w *work.Work) api.Reply {
	key, there, told := w.Space.Pick(w.Call)
	w.Told = append(w.Told, told...)
	return work.Bulk(key, there)
}

// clearAll does FLUSHALL.
func clearAll(w *work.Work) api.Reply {
	if w.Space.Clear() > 0 {
		w.TellAsIs()
	}
	return work.OK()
}
