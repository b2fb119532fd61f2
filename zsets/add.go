package zsets

import (
	"millpond/api"
	"millpond/command"
	"millpond/number"
	"millpond/work"
)

// options are the options of ZADD.
type options int

const (
	nx options = 1 << iota
	xx
	gt
	lt
	ch
	incr
)

// optionOf is the option that a word names.
func optionOf(word string) options {
	switch command.Lower(word) {
	case "nx":
		return nx
	case "xx":
		return xx
	case "gt":
		return gt
	case "lt":
		return lt
	case "ch":
		return ch
	case "incr":
		return incr
	}
	return 0
}

// has tells whether one of some options stands among these.
func (o options) has(some options) bool { return o&some != 0 }

// clash tells whether two of these may not stand together.
func (o options) clash() bool {
	return o.has(nx) && o.has(xx|gt|lt) || o.has(gt) && o.has(lt)
}

// score is the score that n makes of a member's score (0, if it is not there); ok: the options let the member have it.
func (o options) score(n, was int64, there bool) (made int64, ok bool) {
	if there && o.has(nx) || !there && o.has(xx) {
		return 0, false
	}
	if o.has(incr) {
		n = sum(n, was)
	}
	if there && (o.has(gt) && n <= was || o.has(lt) && n >= was) {
		return 0, false
	}
	return n, true
}

// sum is the sum of two scores.
func sum(a, b int64) int64 {
	n, e := number.Sum(a, b)
	if e != api.OK {
		work.Fail(work.Over)
	}
	return n
}

// add does ZADD.
func add(w *work.Work) api.Reply {
	var o options
	pairs := w.Args[2:]
	for len(pairs) > 0 && optionOf(pairs[0]) != 0 {
		o |= optionOf(pairs[0])
		pairs = pairs[1:]
	}
	if len(pairs) == 0 || len(pairs)%2 != 0 || o.clash() {
		work.Fail(work.Syntax)
	}
	if o.has(incr) && len(pairs) > 2 {
		work.Fail("ERR INCR option supports a single increment-element pair")
	}
	return put(w, o, pairs)
}

// put gives the members of some pairs their scores.
func put(w *work.Work, o options, pairs []string) api.Reply {
	asked := scoredOf(pairs)
	z := look(w, w.Args[1])
	made := api.Reply{Kind: api.RNil} // the last score that was given
	told := []string{"ZADD", z.key}
	var changed int64
	for _, m := range asked {
		was, there := z.Score(m.M)
		n, ok := o.score(m.N, was, there)
		if !ok {
			continue
		}
		made = score(n, true)
		if !there || n != was {
			z.Put(m.M, n)
			told = append(told, number.Text(n), m.M)
			changed++
		}
	}
	if z.lay(w) {
		w.Tell(told...)
	}
	switch {
	case o.has(incr):
		return made
	case o.has(ch):
		return work.Int(changed)
	}
	return work.Int(int64(z.Len() - len(z.was)))
}

// scoredOf are the members of some pairs, each of a score and a member.
func scoredOf(pairs []string) []api.Scored {
	var l []api.Scored
	for i := 0; i < len(pairs); i += 2 {
		l = append(l, api.Scored{M: pairs[i+1], N: work.NumberOf(pairs[i])})
	}
	return l
}
