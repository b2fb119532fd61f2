package keys

import (
	"millpond/api"
	"millpond/number"
	"millpond/work"
)

// timeOf is the time that lies the second argument's number of seconds, or milliseconds, behind another one.
func timeOf(w *work.Work, from int, inSeconds bool) int {
	at, e := number.Milli(from, work.NumberOf(w.Args[2]), inSeconds)
	if e != api.OK {
		work.Fail("ERR invalid expire time in '" + w.Name + "' command")
	}
	return at
}

// expire does EXPIRE, PEXPIRE, EXPIREAT and PEXPIREAT, which count from a time.
func expire(w *work.Work, from int, inSeconds bool) api.Reply {
	key, at := w.Args[1], timeOf(w, from, inSeconds)
	if _, there := w.Look(key); !there {
		return work.Int(0)
	}
	if at <= w.Now && w.Role != api.RoleStream { // the stream's clock is none: there the primary's DEL takes out what is over
		takeOut(w, key)
	} else if at != w.End(key, true) {
		w.Space.End(key, at)
		w.Tell("PEXPIREAT", key, number.Text(int64(at)))
	}
	return work.Int(1)
}

// left does TTL and PTTL.
func left(w *work.Work, inSeconds bool) api.Reply {
	const notThere, never = -2, -1
	key := w.Args[1]
	_, there := w.Look(key)
	at := w.End(key, there)
	switch {
	case !there:
		return work.Int(notThere)
	case at == api.Never:
		return work.Int(never)
	}
	ms := int64(max(at-w.Now, 0))
	if inSeconds {
		return work.Int((ms + 500) / 1000)
	}
	return work.Int(ms)
}

// persist does PERSIST.
func persist(w *work.Work) api.Reply {
	key := w.Args[1]
	_, there := w.Look(key)
	if w.End(key, there) == api.Never {
		return work.Int(0)
	}
	w.Space.End(key, api.Never)
	w.TellAsIs()
	return work.Int(1)
}
