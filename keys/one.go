package keys

import (
	"millpond/api"
	"millpond/work"
)

// count does EXISTS, and DEL, which takes out what it counts.
func count(w *work.Work, takesOut bool) api.Reply {
	n := int64(0)
	for _, key := range w.Args[1:] {
		if _, there := w.Look(key); !there {
			continue
		}
		n++
		if takesOut {
			takeOut(w, key)
		}
	}
	return work.Int(n)
}

// takeOut takes out a key that is there.
func takeOut(w *work.Work, key string) {
	w.Space.Del(key)
	w.Tell("DEL", key)
}

// kind does TYPE.
func kind(w *work.Work) api.Reply {
	name := "none"
	v, _ := w.Look(w.Args[1])
	switch v.Kind {
	case api.KString:
		name = "string"
	case api.KList:
		name = "list"
	case api.KSet:
		name = "set"
	case api.KZset:
		name = "zset"
	case api.KHash:
		name = "hash"
	}
	return work.Simple(name)
}

// rename does RENAME and, toNew, RENAMENX.
func rename(w *work.Work, toNew bool) api.Reply {
	key, other := w.Args[1], w.Args[2]
	v, there := w.Look(key)
	if !there {
		work.Fail(work.NoKey)
	}
	taken := key == other
	if !taken {
		_, taken = w.Look(other)
	}
	if toNew && taken {
		return work.Int(0)
	}
	if key != other {
		move(w, key, other, v)
	}
	if toNew {
		return work.Int(1)
	}
	return work.OK()
}

// move gives another key what a key has, and its end. The key goes first: so there is room for the other one in a full store.
func move(w *work.Work, key, other string, v api.Value) {
	at := w.End(key, true)
	w.Space.Del(key)
	w.Space.Put(other, v, at)
	w.Tell("RENAME", key, other)
}
