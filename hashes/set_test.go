package hashes_test

import (
	"slices"
	"strconv"
	"testing"

	"millpond/api"
	"millpond/hashes"
	"millpond/image"
)

func TestSet(t *testing.T) {
	check(t, api.RolePrimary, 10,
		// One field, several; new ones, and ones that are there.
		row{"", "HSET k a 1", ":1", "HSET k a 1", "k=a:1"}, row{"", "HSET k b 1 a 2", ":2", "HSET k a 2 b 1", "k=a:2,b:1"}, row{"", "hset '' a 1", ":1", "HSET '' a 1", "=a:1"}, row{"", "HSET k '' 1", ":1", "HSET k '' 1", "k=:1"}, row{"", "HSET k a ''", ":1", "HSET k a ''", "k=a:"}, row{"", "HSET k '' ''", ":1", "HSET k '' ''", "k=:"},
		row{"k=a:1", "HSET k a 1", ":0", "", "="}, row{"k=a:1", "HSET k a 2", ":0", "HSET k a 2", "k=a:2"}, row{"k=a:1", "HSET k b 1", ":1", "HSET k b 1", "k=a:1,b:1"}, row{"k=a:1", "HSET k a ''", ":0", "HSET k a ''", "k=a:"}, row{"k=a:", "HSET k a ''", ":0", "", "="}, row{"k=a:", "HSET k a 1", ":0", "HSET k a 1", "k=a:1"}, row{"k=a:1,b:2@11", "HSET k a 1 b 2", ":0", "", "="},
		row{"k=a:1,c:3@11", "HSET k d 4 c 5 b 6 a 1", ":2", "HSET k b 6 c 5 d 4", "k=a:1,b:6,c:5,d:4@11"}, row{"k=a:1,b:2,c:3@11", "HSET k c 4 a 5", ":0", "HSET k a 5 c 4", "k=a:5,b:2,c:4@11"}, row{"k=a:1", "HSET k b 1 a 1", ":1", "HSET k b 1", "k=a:1,b:1"}, row{"k=a:1,b:1", "HSET k b 2 a 1", ":0", "HSET k b 2", "k=a:1,b:2"},
		row{"k=a:1", "HSET K a 2", ":1", "HSET K a 2", "K=a:2 k=a:1"}, row{"k=a:1", "HSET k A 2", ":1", "HSET k A 2", "k=A:2,a:1"}, row{"k=a:01", "HSET k a 1", ":0", "HSET k a 1", "k=a:1"}, row{"k=a:x", "HSET k a X", ":0", "HSET k a X", "k=a:X"},
		// Fields rise by their bytes.
		row{"k=ab:1", "HSET k b 1 abc 2 a 3 '' 4 \x00 5 \u00e4 6 \xff 7 B 8 10 9 9 10", ":10", "HSET k '' 4 \x00 5 10 9 9 10 B 8 a 3 abc 2 b 1 \u00e4 6 \xff 7", "k=:4,\x00:5,10:9,9:10,B:8,a:3,ab:1,abc:2,b:1,\u00e4:6,\xff:7"},
		// One that comes twice.
		row{"", "HSET k a 1 a 1", ":1", "HSET k a 1", "k=a:1"}, row{"", "HSET k a 1 a 2", ":1", "HSET k a 2", "k=a:2"}, row{"", "HSET k a 1 b 5 a 2 b 6 a 3", ":2", "HSET k a 3 b 6", "k=a:3,b:6"}, row{"", "HSET k a 1 a ''", ":1", "HSET k a ''", "k=a:"},
		row{"k=a:1@11", "HSET k a 2 a 2", ":0", "HSET k a 2", "k=a:2@11"}, row{"k=a:1@11", "HSET k a 2 a 3", ":0", "HSET k a 3", "k=a:3@11"}, row{"k=a:1@11", "HSET k a 2 a 1", ":0", "", "="}, row{"k=a:1", "HSET k a 1 a 2 a 1", ":0", "", "="}, row{"k=a:1", "HSET k a 1 a 2", ":0", "HSET k a 2", "k=a:2"}, row{"k=a:1,b:1", "HSET k a 2 b 2 a 1", ":0", "HSET k b 2", "k=a:1,b:2"}, row{"k=a:1", "HSET k a 2 b 3 a 1 b 1", ":1", "HSET k b 1", "k=a:1,b:1"}, row{"k=a:", "HSET k a 1 a ''", ":0", "", "="},
		// A field without a value.
		row{"", "HSET k a 1 b", "-PAIRS", "", "="}, row{"k=a:1", "HSET k a 2 b", "-PAIRS", "", "="}, row{"k=a:1", "HSET k a 2 a", "-PAIRS", "", "="}, row{"k=a:1", "hset k a 2 b 3 c 4 d", "-PAIRS", "", "="}, row{"k=a:1", "HSET k a 2 ''", "-PAIRS", "", "="}, row{"k:set", "HSET k a 2 b", "-PAIRS", "", "="}, row{"k=a:1", "HSET k a", "none", "", "="}, row{"k=a:1", "HSET k", "none", "", "="},
		// Other kinds.
		row{"k:str", "HSET k a 1", "-WRONG", "", "="}, row{"k:list", "HSET k a 1", "-WRONG", "", "="}, row{"k:set@11", "HSET k a 1 b 2", "-WRONG", "", "="}, row{"k:zset", "HSET k a 2", "-WRONG", "", "="},
	)
}

func TestSetOfANewField(t *testing.T) {
	check(t, api.RolePrimary, 10,
		row{"", "HSETNX k a 1", ":1", "HSET k a 1", "k=a:1"}, row{"k=a:1@11", "hsetnx k b 2", ":1", "HSET k b 2", "k=a:1,b:2@11"}, row{"k=b:1@11", "HSetNx k a ''", ":1", "HSET k a ''", "k=a:,b:1@11"}, row{"k=a:1", "HSETNX k '' 2", ":1", "HSET k '' 2", "k=:2,a:1"}, row{"k=a:1", "HSETNX k A 2", ":1", "HSET k A 2", "k=A:2,a:1"}, row{"=a:1", "HSETNX '' b 2", ":1", "HSET '' b 2", "=a:1,b:2"},
		row{"k=a:1", "HSETNX k a 2", ":0", "", "="}, row{"k=a:1", "HSETNX k a 1", ":0", "", "="}, row{"k=a:", "HSETNX k a 1", ":0", "", "="}, row{"k=:@11", "HSETNX k '' 1", ":0", "", "="}, row{"k=a:1,b:2@11", "HSETNX k b 3", ":0", "", "="},
		row{"k:str", "HSETNX k a 1", "-WRONG", "", "="}, row{"k:list@11", "HSETNX k a 1", "-WRONG", "", "="}, row{"k:set", "HSETNX k a 1", "-WRONG", "", "="}, row{"k:zset", "HSETNX k a 1", "-WRONG", "", "="}, row{"k=a:1", "HSETNX k b 2 c 3", "none", "", "="}, row{"k=a:1", "HSETNX k b", "none", "", "="},
	)
}

func TestDel(t *testing.T) {
	const k = "k=a:1,b:,c:3@11"
	check(t, api.RolePrimary, 10,
		row{k, "HDEL k a", ":1", "HDEL k a", "k=b:,c:3@11"}, row{k, "hdel k c a", ":2", "HDEL k a c", "k=b:@11"}, row{k, "HDEL k b", ":1", "HDEL k b", "k=a:1,c:3@11"}, row{k, "HDEL k c c a c a", ":2", "HDEL k a c", "k=b:@11"}, row{k, "HDEL k x b y '' b B", ":1", "HDEL k b", "k=a:1,c:3@11"}, row{"k=:1,a:2", "HDEL k ''", ":1", "HDEL k ''", "k=a:2"}, row{"k=a:1", "HDEL K a", ":0", "", "="},
		row{k, "HDEL k x", ":0", "", "="}, row{k, "HDEL k A '' x A 1", ":0", "", "="}, row{"", "HDEL k a", ":0", "", "="}, row{"", "HDEL k a b a", ":0", "", "="},
		// All of them.
		row{"k=a:1@11", "HDEL k a", ":1", "HDEL k a", ""}, row{"k=a:1", "HDEL k x a a", ":1", "HDEL k a", ""}, row{k + " n=a:1", "HDEL k c x b y a a", ":3", "HDEL k a b c", "n=a:1"}, row{"k=:1,\x00:2,a:3,ab:4,\xff:5", "HDEL k \xff ab a \x00 ''", ":5", "HDEL k '' \x00 a ab \xff", ""},
		row{"k:str", "HDEL k a", "-WRONG", "", "="}, row{"k:list", "HDEL k a", "-WRONG", "", "="}, row{"k:set@11", "HDEL k a b", "-WRONG", "", "="}, row{"k:zset", "HDEL k a b", "-WRONG", "", "="},
	)
}

// All rows of up to three pairs of two fields and two values, and of up to three fields to take out, on hashes that have them, or not.
func TestAllShortRows(t *testing.T) {
	t.Parallel()
	var pairs [][]string
	for _, name := range []string{"", "a", "b"} {
		for _, v := range []string{"", "1", "2"} {
			pairs = append(pairs, []string{name, v})
		}
	}
	rows := slices.Clone(pairs)
	for _, a := range pairs {
		for _, b := range pairs {
			rows = append(rows, slices.Concat(a, b))
			for _, c := range pairs {
				rows = append(rows, slices.Concat(a, b, c))
			}
		}
	}
	for _, before := range []string{"", "k=a:1@11", "k=a:,b:2", "k=:1,a:1,b:1", "k=:,c:5", "k=a:1@10"} {
		for _, l := range rows {
			for _, name := range []string{"hset", "hsetnx", "hdel", "hmget", "hget", "hexists", "hstrlen"} {
				newTrio(t, entries(before)).do(t, api.Call{Role: api.RolePrimary, Now: 10, Args: append([]string{name, "k"}, l...)})
			}
		}
	}
}

// fieldsOf are n fields that rise: numbers of seven digits, each with its number behind it.
func fieldsOf(from, n int) []api.Field {
	l := make([]api.Field, n)
	for i := range l {
		l[i] = api.Field{F: strconv.Itoa(1000000 + from + i), V: strconv.Itoa(from + i)}
	}
	return l
}

// pairsOf are the arguments of some fields.
func pairsOf(l ...api.Field) []string {
	var args []string
	for _, f := range l {
		args = append(args, f.F, f.V)
	}
	return args
}

// namesOf are the names of some fields.
func namesOf(l ...api.Field) []string {
	var args []string
	for _, f := range l {
		args = append(args, f.F)
	}
	return args
}

// Rows as long as may be are set, and taken out, and told in one command, rising.
func TestLongRows(t *testing.T) {
	t.Parallel()
	for _, n := range []int{1, 2, 499, 500, 501, 510, 511} {
		l := fieldsOf(0, n)
		turned := slices.Clone(l)
		slices.Reverse(turned)
		for _, before := range [][]api.Entry{nil, {ends("k", api.Value{Kind: api.KHash, H: fieldsOf(600, 3)}, 11)}} {
			c := api.Call{Role: api.RolePrimary, Now: 10, Args: append([]string{"hset", "k"}, pairsOf(turned...)...)}
			newTrio(t, before).do(t, c)
			r, told := hashes.Do(load(t, before), c)
			if want := append([]string{"HSET", "k"}, pairsOf(l...)...); show(r) != ":"+strconv.Itoa(n) || !sameTold(told, [][]string{want}) {
				t.Errorf("HSET of %d = %s, told %s", n, show(r), wroteTold(told))
			}
		}
	}
	for _, n := range []int{1, 999, 1000, 1001, 1021, 1022} {
		l := fieldsOf(0, n)
		turned := slices.Clone(l)
		slices.Reverse(turned)
		for _, rest := range []int{0, 5} {
			before := []api.Entry{ends("k", api.Value{Kind: api.KHash, H: fieldsOf(0, n+rest)}, 11)}
			c := api.Call{Role: api.RolePrimary, Now: 10, Args: append([]string{"hdel", "k"}, namesOf(turned...)...)}
			newTrio(t, before).do(t, c)
			s := load(t, before)
			r, told := hashes.Do(s, c)
			if want := append([]string{"HDEL", "k"}, namesOf(l...)...); show(r) != ":"+strconv.Itoa(n) || !sameTold(told, [][]string{want}) {
				t.Errorf("HDEL of %d = %s, told %s", n, show(r), wroteTold(told))
			}
			if left, there := s.Look("k"); image.Check(s.Image()) != api.OK || len(left.V.H) != rest || there != (rest > 0) {
				t.Errorf("HDEL of %d of %d leaves %d", n, n+rest, len(left.V.H))
			}
		}
	}
}
