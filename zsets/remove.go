package zsets

import (
	"slices"

	"millpond/api"
	"millpond/number"
	"millpond/skip"
	"millpond/work"
)

// remove does ZREM.
func remove(w *work.Work) api.Reply {
	z := look(w, w.Args[1])
	var gone int64
	for _, m := range w.Args[2:] {
		if z.Del(m) {
			gone++
		}
	}
	if z.lay(w) {
		w.TellAsIs()
	}
	return work.Int(gone)
}

// pop does ZPOPMIN and, back, ZPOPMAX.
func pop(w *work.Work, back bool) api.Reply {
	if len(w.Args) > 3 {
		work.Fail(work.Syntax)
	}
	most := int64(1)
	if len(w.Args) == 3 {
		most = work.CountOf(w.Args[2])
	}
	z := look(w, w.Args[1])
	n := int(min(most, int64(z.Len())))
	if back {
		return rowOf(true, z.takeOut(w, z.Len()-n, z.Len(), true)...)
	}
	return rowOf(true, z.takeOut(w, 0, n, false)...)
}

// removeByRank does ZREMRANGEBYRANK.
func removeByRank(w *work.Work) api.Reply {
	first, last := work.NumberOf(w.Args[2]), work.NumberOf(w.Args[3])
	z := look(w, w.Args[1])
	from, to := number.Range(first, last, z.Len())
	return work.Int(int64(len(z.takeOut(w, from, to, false))))
}

// removeByScore does ZREMRANGEBYSCORE.
func removeByScore(w *work.Work) api.Reply {
	low, high := boundOf(w.Args[2]), boundOf(w.Args[3])
	z := look(w, w.Args[1])
	from, _ := z.First(low, high)
	return work.Int(int64(len(z.takeOut(w, from, from+z.Count(low, high), false))))
}

// rowMost is how many members of a long row one command tells at most.
const rowMost = 1000

// takeOut takes the members of the ranks from one up to another one out, in order, or, back, from the last one on; it tells ZREM of them.
func (z zset) takeOut(w *work.Work, from, to int, back bool) []api.Scored {
	rest := z.All()
	gone := slices.Clone(rest[from:to])
	if back {
		slices.Reverse(gone)
	}
	z.List, _ = skip.Load(0, slices.Delete(rest, from, to)...)
	z.lay(w)
	for part := range slices.Chunk(gone, rowMost) {
		told := []string{"ZREM", z.key}
		for _, m := range part {
			told = append(told, m.M)
		}
		w.Tell(told...)
	}
	return gone
}
