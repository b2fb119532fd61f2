package zsets

import (
	"millpond/api"
	"millpond/command"
	"millpond/number"
	"millpond/work"
)

// scoreOf does ZSCORE.
func scoreOf(w *work.Work) api.Reply {
	return score(look(w, w.Args[1]).Score(w.Args[2]))
}

// size does ZCARD.
func size(w *work.Work) api.Reply {
	return work.Int(int64(look(w, w.Args[1]).Len()))
}

// rankOf does ZRANK and, back, ZREVRANK.
func rankOf(w *work.Work, back bool) api.Reply {
	z := look(w, w.Args[1])
	n, there := z.Rank(w.Args[2])
	if !there {
		return work.Bulk("", false)
	}
	if back {
		n = z.Len() - 1 - n
	}
	return work.Int(int64(n))
}

// count does ZCOUNT.
func count(w *work.Work) api.Reply {
	low, high := boundOf(w.Args[2]), boundOf(w.Args[3])
	return work.Int(int64(look(w, w.Args[1]).Count(low, high)))
}

// byRank does ZRANGE and, back, ZREVRANGE.
func byRank(w *work.Work, back bool) api.Reply {
	first, last := work.NumberOf(w.Args[2]), work.NumberOf(w.Args[3])
	more := w.Args[4:]
	if len(more) > 1 || len(more) == 1 && command.Lower(more[0]) != "withscores" {
		work.Fail(work.Syntax)
	}
	z := look(w, w.Args[1])
	from, to := number.Range(first, last, z.Len())
	rank := from
	if back {
		rank = z.Len() - 1 - from
	}
	return rowOf(len(more) == 1, z.row(rank, to-from, back)...)
}

// byScore does ZRANGEBYSCORE.
func byScore(w *work.Work) api.Reply {
	low, high := boundOf(w.Args[2]), boundOf(w.Args[3])
	withScores, l := pageOf(w.Args[4:])
	z := look(w, w.Args[1])
	first, _ := z.First(low, high)
	without, n := l.of(z.Count(low, high))
	return rowOf(withScores, z.row(first+without, n, false)...)
}

// limit is which part of a row is told: without so many first ones, at most so many; below 0: none at all, all.
type limit struct {
	without, most int64
}

// of is the part of a row of n: how many stand ahead of it, how many it has.
func (l limit) of(n int) (without, count int) {
	if l.without < 0 {
		return 0, 0
	}
	without = int(min(l.without, int64(n)))
	count = n - without
	if l.most >= 0 {
		count = int(min(l.most, int64(count)))
	}
	return without, count
}

// pageOf are the options of ZRANGEBYSCORE.
func pageOf(words []string) (withScores bool, l limit) {
	last := []string{"0", "-1"} // of the last LIMIT; without one all are told
	for len(words) > 0 {
		switch command.Lower(words[0]) {
		case "withscores":
			withScores = true
			words = words[1:]
			continue
		case "limit":
			if len(words) > 2 {
				last, words = words[1:3], words[3:]
				continue
			}
		}
		work.Fail(work.Syntax)
	}
	return withScores, limit{work.NumberOf(last[0]), work.NumberOf(last[1])}
}
