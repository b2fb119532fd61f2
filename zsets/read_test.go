package zsets_test

import (
	"math"
	"strconv"
	"testing"

	"millpond/api"
	"millpond/zsets"
)

func TestQuestions(t *testing.T) {
	const k = "k=c:-5,a:1,b:1,d:9@11"
	check(t, api.RolePrimary, 10,
		row{k, "ZSCORE k a", "$1", "", "="}, row{k, "zscore k c", "$-5", "", "="}, row{k, "ZSCORE k x", "nil", "", "="}, row{k, "ZSCORE k A", "nil", "", "="}, row{k, "ZSCORE k ''", "nil", "", "="}, row{"k=:0", "ZSCORE k ''", "$0", "", "="}, row{"", "ZSCORE k a", "nil", "", "="}, row{"k=a:" + least + ",b:" + greatest, "ZSCORE k a", "$" + least, "", "="}, row{"k=a:" + least + ",b:" + greatest, "ZSCORE k b", "$" + greatest, "", "="},
		row{k, "ZCARD k", ":4", "", "="}, row{"k=a:1", "zcard k", ":1", "", "="}, row{"", "ZCARD k", ":0", "", "="},
		row{k, "ZRANK k c", ":0", "", "="}, row{k, "zrank k a", ":1", "", "="}, row{k, "ZRANK k b", ":2", "", "="}, row{k, "ZRANK k d", ":3", "", "="}, row{k, "ZRANK k x", "nil", "", "="}, row{"", "ZRANK k a", "nil", "", "="}, row{"k=:1,\x00:1", "ZRANK k ''", ":0", "", "="},
		row{k, "ZREVRANK k c", ":3", "", "="}, row{k, "zRevRank k a", ":2", "", "="}, row{k, "ZREVRANK k b", ":1", "", "="}, row{k, "ZREVRANK k d", ":0", "", "="}, row{k, "ZREVRANK k x", "nil", "", "="}, row{"", "ZREVRANK k a", "nil", "", "="},
	)
	for _, kind := range []string{"k:str", "k:list", "k:set", "k:hash@11"} {
		for _, args := range []string{"ZSCORE k a", "ZCARD k", "ZRANK k a", "ZREVRANK k a", "ZCOUNT k 0 1", "ZRANGE k 0 1", "ZREVRANGE k 0 1 WITHSCORES", "ZRANGEBYSCORE k 0 1", "ZRANGEBYSCORE k 0 1 LIMIT 0 0", "ZREM k a", "ZPOPMIN k", "ZPOPMAX k 0", "ZREMRANGEBYRANK k 5 1", "ZREMRANGEBYSCORE k 5 1"} {
			check(t, api.RolePrimary, 10, row{kind, args, "-WRONG", "", "="})
		}
	}
}

func TestCount(t *testing.T) {
	const k = "k=c:-5,a:1,b:1,d:9@11"
	check(t, api.RolePrimary, 10,
		row{k, "ZCOUNT k -inf +inf", ":4", "", "="}, row{k, "ZCOUNT k -inf inf", ":4", "", "="}, row{k, "ZCOUNT k +inf -inf", ":0", "", "="}, row{k, "ZCOUNT k inf inf", ":0", "", "="}, row{k, "ZCOUNT k -inf -inf", ":0", "", "="},
		row{k, "ZCOUNT k 1 1", ":2", "", "="}, row{k, "ZCOUNT k (1 1", ":0", "", "="}, row{k, "ZCOUNT k 1 (1", ":0", "", "="}, row{k, "ZCOUNT k (1 (1", ":0", "", "="}, row{k, "ZCOUNT k (1 9", ":1", "", "="}, row{k, "ZCOUNT k -5 (1", ":1", "", "="}, row{k, "ZCOUNT k (-5 (9", ":2", "", "="}, row{k, "ZCOUNT k -5 9", ":4", "", "="}, row{k, "ZCOUNT k 9 -5", ":0", "", "="}, row{k, "ZCOUNT k (9 inf", ":0", "", "="}, row{k, "zcount k -inf (-5", ":0", "", "="}, row{k, "ZCOUNT k 2 8", ":0", "", "="}, row{"", "ZCOUNT k -inf inf", ":0", "", "="},
		row{k, "ZCOUNT k " + least + " " + greatest, ":4", "", "="}, row{"k=a:" + least + ",b:" + greatest, "ZCOUNT k (" + least + " " + greatest, ":1", "", "="}, row{"k=a:" + least + ",b:" + greatest, "ZCOUNT k " + least + " (" + greatest, ":1", "", "="}, row{"k=a:" + least + ",b:" + greatest, "ZCOUNT k (" + least + " (" + greatest, ":0", "", "="}, row{"k=a:" + least + ",b:" + greatest, "ZCOUNT k -inf inf", ":2", "", "="},
	)
	for _, text := range noBounds {
		for _, name := range []string{"ZCOUNT", "ZRANGEBYSCORE", "ZREMRANGEBYSCORE"} {
			for _, args := range [][]string{{name, "k", text, "5"}, {name, "k", "5", text}, {name, "k", text, text}} {
				checkCall(t, api.Call{Role: api.RolePrimary, Args: args}, entries(k), reply("-BOUND"), nil, "=")
				checkCall(t, api.Call{Role: api.RolePrimary, Args: args}, entries("k:set"), reply("-BOUND"), nil, "=")
			}
		}
	}
}

// noBounds are texts that are no bound's.
var noBounds = []string{"", "(", "(inf", "(+inf", "(-inf", "((1", "1.5", "+1", "(+1", "01", "-0", "(-0", "(01", "Inf", "INF", "-INF", "+Inf", "infinity", "--inf", "x", "1(", "(1(", " 1", "1 ", "(1 ", "( 1", "[1", "nan", "9223372036854775808", "-9223372036854775809", "(9223372036854775808", "1e3", "\x00", over[:300]}

// bounds are bounds of each form.
var bounds = []string{"-inf", "+inf", "inf", "-9", "(-9", "-3", "(-3", "-2", "0", "(0", "1", "(1", "2", "(2", "7", "(7", "8", least, "(" + least, greatest, "(" + greatest}

// All pairs of bounds, on sets with their scores.
func TestAllRangesOfScores(t *testing.T) {
	t.Parallel()
	for _, before := range []string{"", "k=a:0@11", "k=a:-3,b:0,c:0,d:2,e:7,f:7", "k=a:" + least + ",b:-9,c:-9,d:1,e:" + greatest + ",f:" + greatest} {
		for _, low := range bounds {
			for _, high := range bounds {
				for _, args := range [][]string{{"ZCOUNT", "k", low, high}, {"ZRANGEBYSCORE", "k", low, high}, {"ZRANGEBYSCORE", "k", low, high, "LIMIT", "1", "2", "WITHSCORES"}, {"ZREMRANGEBYSCORE", "k", low, high}} {
					newTrio(t, entries(before)).do(t, api.Call{Role: api.RolePrimary, Now: 10, Args: args})
				}
			}
		}
	}
}

func TestRange(t *testing.T) {
	const k = "k=c:-5,a:1,b:1,d:9@11"
	check(t, api.RolePrimary, 10,
		row{k, "ZRANGE k 0 -1", "[$c $a $b $d]", "", "="}, row{k, "ZREVRANGE k 0 -1", "[$d $b $a $c]", "", "="}, row{k, "ZRANGE k 0 -1 WITHSCORES", "[$c $-5 $a $1 $b $1 $d $9]", "", "="}, row{k, "ZREVRANGE k 0 -1 WITHSCORES", "[$d $9 $b $1 $a $1 $c $-5]", "", "="},
		row{k, "zrange k 1 2", "[$a $b]", "", "="}, row{k, "zrevrange k 0 0", "[$d]", "", "="}, row{k, "ZRANGE k -1 -1 withScores", "[$d $9]", "", "="}, row{k, "ZREVRANGE k -1 -1 withscores", "[$c $-5]", "", "="}, row{k, "ZRANGE k -100 100", "[$c $a $b $d]", "", "="}, row{k, "ZREVRANGE k 1 100", "[$b $a $c]", "", "="},
		row{k, "ZRANGE k 2 1", "[]", "", "="}, row{k, "ZREVRANGE k 2 1 WITHSCORES", "[]", "", "="}, row{k, "ZRANGE k 4 9", "[]", "", "="}, row{k, "ZREVRANGE k 4 9", "[]", "", "="}, row{k, "ZRANGE k -9 -5", "[]", "", "="}, row{k, "ZREVRANGE k -9 -5", "[]", "", "="}, row{"", "ZRANGE k 0 -1", "[]", "", "="}, row{"", "ZREVRANGE k 0 -1 WITHSCORES", "[]", "", "="},
		row{k, "ZRANGE k " + least + " " + greatest, "[$c $a $b $d]", "", "="}, row{k, "ZREVRANGE k " + least + " " + greatest, "[$d $b $a $c]", "", "="}, row{k, "ZRANGE k " + greatest + " " + least, "[]", "", "="}, row{k, "ZRANGE k " + greatest + " " + greatest, "[]", "", "="},
		// NUMBER is named ahead of SYNTAX.
		row{k, "ZRANGE k x 1", "-NUMBER", "", "="}, row{k, "ZRANGE k 1 x", "-NUMBER", "", "="}, row{k, "ZREVRANGE k (1 1", "-NUMBER", "", "="}, row{k, "ZREVRANGE k 1 -inf", "-NUMBER", "", "="}, row{k, "ZRANGE k x 1 y", "-NUMBER", "", "="}, row{k, "ZRANGE k 1 '' WITHSCORES WITHSCORES", "-NUMBER", "", "="}, row{"k:set", "ZRANGE k 9223372036854775808 1", "-NUMBER", "", "="},
		row{k, "ZRANGE k 0 1 y", "-SYNTAX", "", "="}, row{k, "ZRANGE k 0 1 ''", "-SYNTAX", "", "="}, row{k, "ZRANGE k 0 1 WITHSCORES WITHSCORES", "-SYNTAX", "", "="}, row{k, "ZREVRANGE k 0 1 WITHSCORES y", "-SYNTAX", "", "="}, row{k, "ZREVRANGE k 0 1 LIMIT 0 1", "-SYNTAX", "", "="}, row{k, "ZRANGE k 0 1 withscore\u017f", "-SYNTAX", "", "="}, row{"k:set", "ZRANGE k 0 1 REV", "-SYNTAX", "", "="},
	)
}

// All pairs of places of sets of up to five members.
func TestAllPlaces(t *testing.T) {
	t.Parallel()
	all := []string{"a:3", "b:3", "c:1", "d:9", "e:-9223372036854775808"}
	for n := range 6 {
		var before []api.Entry
		if n > 0 {
			before = []api.Entry{ends("k", zset(all[:n]...), 11)}
		}
		for first := -7; first <= 7; first++ {
			for last := -7; last <= 7; last++ {
				for _, args := range [][]string{{"ZRANGE"}, {"ZREVRANGE"}, {"ZRANGE", "", "", "", "withscores"}, {"ZREVRANGE", "", "", "", "Withscores"}, {"ZREMRANGEBYRANK"}} {
					tail := args[min(4, len(args)):]
					c := append([]string{args[0], "k", strconv.Itoa(first), strconv.Itoa(last)}, tail...)
					newTrio(t, before).do(t, api.Call{Role: api.RolePrimary, Now: 10, Args: c})
				}
			}
		}
	}
}

func TestRangeByScore(t *testing.T) {
	const k = "k=c:-5,a:1,b:1,d:9@11"
	check(t, api.RolePrimary, 10,
		row{k, "ZRANGEBYSCORE k -inf +inf", "[$c $a $b $d]", "", "="}, row{k, "zrangebyscore k 1 9 withscores", "[$a $1 $b $1 $d $9]", "", "="}, row{k, "ZRANGEBYSCORE k (1 9", "[$d]", "", "="}, row{k, "ZRANGEBYSCORE k -5 (1 WITHSCORES", "[$c $-5]", "", "="}, row{k, "ZRANGEBYSCORE k 9 1", "[]", "", "="}, row{k, "ZRANGEBYSCORE k (9 inf WITHSCORES", "[]", "", "="}, row{"", "ZRANGEBYSCORE k -inf inf", "[]", "", "="},
		row{k, "ZRANGEBYSCORE k -inf inf LIMIT 1 2", "[$a $b]", "", "="}, row{k, "ZRANGEBYSCORE k 1 inf limit 1 2 WithScores", "[$b $1 $d $9]", "", "="}, row{k, "ZRANGEBYSCORE k 1 inf WITHSCORES LIMIT 0 1", "[$a $1]", "", "="}, row{k, "ZRANGEBYSCORE k 1 inf LIMIT 0 -1", "[$a $b $d]", "", "="}, row{k, "ZRANGEBYSCORE k 1 inf LIMIT 2 " + least, "[$d]", "", "="}, row{k, "ZRANGEBYSCORE k 1 inf LIMIT 1 " + greatest, "[$b $d]", "", "="}, row{k, "ZRANGEBYSCORE k 1 inf LIMIT 0 0", "[]", "", "="}, row{k, "ZRANGEBYSCORE k 1 inf LIMIT 3 5", "[]", "", "="}, row{k, "ZRANGEBYSCORE k 1 inf LIMIT 4 -1", "[]", "", "="}, row{k, "ZRANGEBYSCORE k 1 inf LIMIT " + greatest + " -1", "[]", "", "="},
		row{k, "ZRANGEBYSCORE k 1 inf LIMIT -1 5", "[]", "", "="}, row{k, "ZRANGEBYSCORE k 1 inf LIMIT -1 -1", "[]", "", "="}, row{k, "ZRANGEBYSCORE k 1 inf LIMIT " + least + " -1", "[]", "", "="},
		// Options may come again; the last LIMIT counts.
		row{k, "ZRANGEBYSCORE k 1 inf LIMIT 0 1 LIMIT 1 2", "[$b $d]", "", "="}, row{k, "ZRANGEBYSCORE k 1 inf LIMIT 1 2 WITHSCORES LIMIT 0 1 withscores", "[$a $1]", "", "="}, row{k, "ZRANGEBYSCORE k 1 inf WITHSCORES WITHSCORES", "[$a $1 $b $1 $d $9]", "", "="}, row{k, "ZRANGEBYSCORE k 1 inf LIMIT -1 0 LIMIT 0 -1", "[$a $b $d]", "", "="}, row{k, "ZRANGEBYSCORE k 1 inf LIMIT x y LIMIT 0 1", "[$a]", "", "="},
		// Errors, in their order.
		row{k, "ZRANGEBYSCORE k 1 inf LIMIT", "-SYNTAX", "", "="}, row{k, "ZRANGEBYSCORE k 1 inf LIMIT 1", "-SYNTAX", "", "="}, row{k, "ZRANGEBYSCORE k 1 inf WITHSCORES LIMIT 1", "-SYNTAX", "", "="}, row{k, "ZRANGEBYSCORE k 1 inf LIMIT 0 1 LIMIT 1", "-SYNTAX", "", "="}, row{k, "ZRANGEBYSCORE k 1 inf LIMIT 0 1 2", "-SYNTAX", "", "="}, row{k, "ZRANGEBYSCORE k 1 inf x", "-SYNTAX", "", "="}, row{k, "ZRANGEBYSCORE k 1 inf ''", "-SYNTAX", "", "="}, row{k, "ZRANGEBYSCORE k 1 inf WITHSCORES x", "-SYNTAX", "", "="}, row{k, "ZRANGEBYSCORE k 1 inf LIMIT x 1 x", "-SYNTAX", "", "="}, row{k, "ZRANGEBYSCORE k 1 inf LIMIT x y LIMIT 1", "-SYNTAX", "", "="}, row{"k:set", "ZRANGEBYSCORE k 1 inf x", "-SYNTAX", "", "="},
		row{k, "ZRANGEBYSCORE k 1 inf LIMIT x 1", "-NUMBER", "", "="}, row{k, "ZRANGEBYSCORE k 1 inf LIMIT 1 x", "-NUMBER", "", "="}, row{k, "ZRANGEBYSCORE k 1 inf LIMIT 1 WITHSCORES", "-NUMBER", "", "="}, row{k, "ZRANGEBYSCORE k 1 inf LIMIT LIMIT 1", "-NUMBER", "", "="}, row{k, "ZRANGEBYSCORE k 1 inf LIMIT 0 1 LIMIT 0 +1", "-NUMBER", "", "="}, row{k, "ZRANGEBYSCORE k 1 inf LIMIT -1 x", "-NUMBER", "", "="}, row{k, "ZRANGEBYSCORE k 1 inf LIMIT 9223372036854775808 1", "-NUMBER", "", "="}, row{"k:set", "ZRANGEBYSCORE k 1 inf LIMIT 1 x", "-NUMBER", "", "="},
		row{k, "ZRANGEBYSCORE k x inf y", "-BOUND", "", "="}, row{k, "ZRANGEBYSCORE k 1 x LIMIT x", "-BOUND", "", "="}, row{k, "ZRANGEBYSCORE k 1 x LIMIT x 1", "-BOUND", "", "="},
	)
}

// All parts that LIMIT leaves.
func TestAllLimits(t *testing.T) {
	t.Parallel()
	numbers := []string{least, "-2", "-1", "0", "1", "2", "3", "4", "5", "6", greatest}
	for _, before := range []string{"", "k=a:5", "k=a:0,b:5,c:5,d:6,e:7", "k=a:5,b:5,c:5,d:9@11"} {
		for _, n := range numbers {
			for _, k := range numbers {
				for _, args := range []string{"zrangebyscore k 5 7 limit " + n + " " + k, "zrangebyscore k -inf inf withscores limit " + n + " " + k, "zrangebyscore k (5 (5 limit " + n + " " + k, "zrangebyscore k 5 7 limit 1 1 limit " + n + " " + k + " withscores"} {
					newTrio(t, entries(before)).do(t, api.Call{Role: api.RolePrimary, Now: 10, Args: words(args)})
				}
			}
		}
	}
}

// P15.4: the rank of a member from the front and that from the end are together one less than how many there are; the member of ZRANGE at its rank is it.
func TestRanks(t *testing.T) {
	m := newMaker(3)
	ask := func(x *trio, args ...string) api.Reply {
		r, _ := zsets.Do(x.s, api.Call{Role: api.RolePrimary, Args: args})
		return r
	}
	for range 300 {
		v := m.value(40)
		x := newTrio(t, []api.Entry{stay("k", v)})
		if n := ask(x, "zcard", "k"); show(n) != ":"+strconv.Itoa(len(v.Z)) {
			t.Fatalf("ZCARD = %s", show(n))
		}
		for _, s := range v.Z {
			front, end := ask(x, "zrank", "k", s.M), ask(x, "zrevrank", "k", s.M)
			if front.Kind != api.RInt || end.Kind != api.RInt || front.N < 0 || end.N < 0 || front.N+end.N != int64(len(v.Z)-1) {
				t.Fatalf("the ranks of %q, of %d, are %s and %s", s.M, len(v.Z), show(front), show(end))
			}
			rank, turned := strconv.FormatInt(front.N, 10), strconv.FormatInt(end.N, 10)
			for _, r := range []api.Reply{ask(x, "zrange", "k", rank, rank), ask(x, "zrevrange", "k", turned, turned)} {
				if show(r) != "[$"+s.M+"]" {
					t.Fatalf("at the rank of %q stands %s", s.M, show(r))
				}
			}
			if r := ask(x, "zscore", "k", s.M); show(r) != "$"+digits(s.N) {
				t.Fatalf("ZSCORE of %q = %s; want %d", s.M, show(r), s.N)
			}
		}
		l := ask(x, "zrange", "k", "0", "-1", "withscores").L
		for i := 2; i < len(l); i += 2 {
			a, _ := strconv.ParseInt(l[i-1].S, 10, 64)
			b, _ := strconv.ParseInt(l[i+1].S, 10, 64)
			if a > b || a == b && l[i-2].S >= l[i].S {
				t.Fatalf("ZRANGE tells %s", show(api.Reply{Kind: api.RArray, L: l}))
			}
		}
	}
}

// value is a sorted set of up to so many members, whose scores are often alike.
func (m maker) value(most int) api.Value {
	v := api.Value{Kind: api.KZset}
	for i := range 1 + m.IntN(most) {
		n := m.Int64N(7) - 3
		if m.IntN(9) == 0 {
			n = []int64{math.MinInt64, math.MaxInt64, int64(m.Uint64())}[m.IntN(3)]
		}
		v.Z = append(v.Z, api.Scored{M: "m" + strconv.Itoa(i*7%41), N: n})
	}
	m.Shuffle(len(v.Z), func(i, j int) { v.Z[i], v.Z[j] = v.Z[j], v.Z[i] })
	return v
}
