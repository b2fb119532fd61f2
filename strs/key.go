package strs

import (
	"millpond/api"
	"millpond/number"
	"millpond/work"
)

// text is the text of a key that is looked at, the empty one, if the key is not there; ok: it has no other kind.
func text(w *work.Work, key string) (s string, there, ok bool) {
	v, there := w.Look(key)
	return v.S, there, !there || v.Kind == api.KString
}

// put gives a key a text and an end. changed: it had not both of them; ok: there is room for it.
func put(w *work.Work, key, s string, at int) (changed, ok bool) {
	e, stands := w.Space.Look(key)
	if stands && e.V.Kind == api.KString && e.V.S == s && e.At == at {
		return false, true
	}
	wrong := w.Space.Put(key, api.Value{Kind: api.KString, S: s}, at)
	return wrong == api.OK, wrong == api.OK
}

// lay gives a key a text and an end, and tells that by a command, if it is a change; false: there is no room for it.
func lay(w *work.Work, key, s string, at int, told ...string) bool {
	changed, ok := put(w, key, s, at)
	if changed {
		w.Tell(told...)
	}
	return ok
}

// laySet gives a key a text and an end, and tells that by SET.
func laySet(w *work.Work, key, s string, at int) bool {
	if at == api.Never {
		return lay(w, key, s, at, "SET", key, s)
	}
	return lay(w, key, s, at, "SET", key, s, "PXAT", number.Text(int64(at)))
}
