package strs

import (
	"millpond/api"
	"millpond/command"
	"millpond/number"
	"millpond/work"
)

// options are what a SET is asked for beside the value.
type options struct {
	onlyNew   bool
	onlyThere bool
	former    bool   // it is to tell the former value
	end       string // the word that says when the key ends, none: never
	n         string // the number behind that word
}

// read takes SET's words, in any order; false: they may not stand so.
func (o *options) read(words []string) bool {
	left := words
all:
	for len(left) > 0 {
		word := command.Lower(left[0])
		switch word {
		case "nx":
			o.onlyNew = true
		case "xx":
			o.onlyThere = true
		case "get":
			o.former = true
		case "ex", "px", "exat", "pxat":
			if len(left) < 2 {
				break all
			}
			left = left[1:]
			o.n = left[0]
			fallthrough
		case "keepttl":
			if o.end != "" {
				break all
			}
			o.end = word
		default:
			break all
		}
		left = left[1:]
	}
	return len(left) == 0 && !(o.onlyNew && o.onlyThere)
}

// refuses tells whether nothing is to be done with a key that is there, or is not.
func (o *options) refuses(there bool) bool { return o.onlyNew && there || o.onlyThere && !there }

// set does SET.
func set(w *work.Work) api.Reply {
	key, o, at := w.Args[1], options{}, api.Never
	if !o.read(w.Args[3:]) {
		return work.Error(work.Syntax)
	}
	keeps := o.end == "keepttl"
	if o.end != "" && !keeps {
		var told string
		if at, told = endOf(w, o.end, o.n); told != "" {
			return work.Error(told)
		}
	}
	s, there, ok := text(w, key)
	if o.former && !ok {
		return work.Error(work.Wrong)
	}
	if o.refuses(there) {
		return work.Bulk(s, there && o.former)
	}
	if keeps {
		at = w.End(key, there)
	}
	if !laySet(w, key, w.Args[2], at) {
		return work.Error(work.Full)
	}
	if o.former {
		return work.Bulk(s, there)
	}
	return work.OK()
}

// setEnding does SETEX and PSETEX: the word is the option of SET that they stand for.
func setEnding(w *work.Work, word string) api.Reply {
	key := w.Args[1]
	at, told := endOf(w, word, w.Args[2])
	if told != "" {
		return work.Error(told)
	}
	w.Look(key)
	if !laySet(w, key, w.Args[3], at) {
		return work.Error(work.Full)
	}
	return work.OK()
}

// endOf is when a key ends by a word of SET and the number behind it; else the error that is told.
func endOf(w *work.Work, word, text string) (int, string) {
	n, e := number.Parse(text)
	if e != api.OK {
		return 0, work.Number
	}
	from, least, seconds := 0, int64(0), false
	switch word {
	case "ex":
		seconds = true
		fallthrough
	case "px":
		from, least = w.Now, 1
	case "exat":
		seconds = true
	}
	at, e := number.Milli(from, n, seconds)
	if n < least || e != api.OK {
		return 0, "ERR invalid expire time in '" + w.Name + "' command"
	}
	return at, ""
}

// getSet does GETSET.
func getSet(w *work.Work) api.Reply {
	key := w.Args[1]
	s, there, ok := text(w, key)
	if !ok {
		return work.Error(work.Wrong)
	}
	if !laySet(w, key, w.Args[2], api.Never) {
		return work.Error(work.Full)
	}
	return work.Bulk(s, there)
}

// setNew does SETNX.
func setNew(w *work.Work) api.Reply {
	key := w.Args[1]
	if _, there := w.Look(key); there {
		return work.Int(0)
	}
	if !laySet(w, key, w.Args[2], api.Never) {
		return work.Error(work.Full)
	}
	return work.Int(1)
}
