package strs

import (
	"strings"

	"millpond/api"
	"millpond/number"
	"millpond/work"
)

// appendTo does APPEND.
func appendTo(w *work.Work) api.Reply {
	key, more := w.Args[1], w.Args[2]
	s, there, ok := text(w, key)
	if !ok {
		return work.Error(work.Wrong)
	}
	s += more
	if len(s) > api.MaxBulk {
		return work.Error(work.Long)
	}
	if !lay(w, key, s, w.End(key, there), "APPEND", key, more) {
		return work.Error(work.Full)
	}
	return work.Int(int64(len(s)))
}

// setRange does SETRANGE.
func setRange(w *work.Work) api.Reply {
	key, part := w.Args[1], w.Args[3]
	n, e := number.Parse(w.Args[2])
	if e != api.OK {
		return work.Error(work.Number)
	}
	if n < 0 {
		return work.Error("ERR offset is out of range")
	}
	s, there, ok := text(w, key)
	if !ok {
		return work.Error(work.Wrong)
	}
	if part == "" {
		return work.Int(int64(len(s)))
	}
	if n > int64(api.MaxBulk-len(part)) {
		return work.Error(work.Long)
	}
	s = overlaid(s, int(n), part)
	if !lay(w, key, s, w.End(key, there), "SETRANGE", key, w.Args[2], part) {
		return work.Error(work.Full)
	}
	return work.Int(int64(len(s)))
}

// overlaid is a text with a part of another one from a place on, and bytes 0 ahead, where it does not reach so far.
func overlaid(s string, at int, part string) string {
	if at > len(s) {
		s += strings.Repeat("\x00", at-len(s))
	}
	end := min(at+len(part), len(s))
	return s[:at] + part + s[end:]
}

// count does INCR, INCRBY, DECR and DECRBY.
func count(w *work.Work, down bool) api.Reply {
	key, by := w.Args[1], "1"
	if len(w.Args) > 2 {
		by = w.Args[2]
	}
	step, e := number.Parse(by)
	if e != api.OK {
		return work.Error(work.Number)
	}
	s, there, ok := text(w, key)
	if !ok {
		return work.Error(work.Wrong)
	}
	if !there {
		s = "0"
	}
	n, e := number.Parse(s)
	if e != api.OK {
		return work.Error(work.Number)
	}
	n, e = sum(n, step, down)
	if e != api.OK {
		return work.Error(work.Over)
	}
	if !laySet(w, key, number.Text(n), w.End(key, there)) {
		return work.Error(work.Full)
	}
	return work.Int(n)
}

// sum is a number and a step, up or down. A step down below 0 goes in two: the least number has none that is as far above 0.
func sum(n, step int64, down bool) (int64, api.Errno) {
	if !down {
		return number.Sum(n, step)
	}
	if step < 0 {
		return number.Sum(n, -(step + 1), 1)
	}
	return number.Sum(n, -step)
}
