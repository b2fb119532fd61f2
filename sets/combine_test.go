package sets_test

import (
	"math/rand/v2"
	"slices"
	"strconv"
	"strings"
	"testing"

	"millpond/api"
	"millpond/sets"
)

func TestCombine(t *testing.T) {
	const k = "a=1,2,3@11 b=2,3,4 c=3,4,5 l:list"
	check(t, api.RolePrimary, 10,
		row{k, "SUNION a", "[$1 $2 $3]", "", "="}, row{k, "SUNION a b", "[$1 $2 $3 $4]", "", "="}, row{k, "sunion c b a", "[$1 $2 $3 $4 $5]", "", "="}, row{k, "SUNION a a", "[$1 $2 $3]", "", "="}, row{k, "SUNION x a", "[$1 $2 $3]", "", "="}, row{k, "SUNION a x c y", "[$1 $2 $3 $4 $5]", "", "="}, row{k, "SUNION x", "[]", "", "="}, row{k, "SUNION x y x", "[]", "", "="},
		row{k, "SINTER a", "[$1 $2 $3]", "", "="}, row{k, "SINTER a b", "[$2 $3]", "", "="}, row{k, "sInter c b a", "[$3]", "", "="}, row{k, "SINTER a a", "[$1 $2 $3]", "", "="}, row{k, "SINTER a b a b", "[$2 $3]", "", "="}, row{k, "SINTER x a", "[]", "", "="}, row{k, "SINTER a x", "[]", "", "="}, row{k, "SINTER a b x c", "[]", "", "="}, row{k, "SINTER x", "[]", "", "="}, row{k, "SINTER x x", "[]", "", "="},
		row{k, "SDIFF a", "[$1 $2 $3]", "", "="}, row{k, "SDIFF a b", "[$1]", "", "="}, row{k, "SDIFF b a", "[$4]", "", "="}, row{k, "sdiFF c b a", "[$5]", "", "="}, row{k, "SDIFF a a", "[]", "", "="}, row{k, "SDIFF a c a", "[]", "", "="}, row{k, "SDIFF a x", "[$1 $2 $3]", "", "="}, row{k, "SDIFF x a", "[]", "", "="}, row{k, "SDIFF a x c y", "[$1 $2]", "", "="}, row{k, "SDIFF x", "[]", "", "="},
	)
	for _, name := range []string{"SUNION", "SINTER", "SDIFF", "sunion", "sinter", "sdiff"} {
		for _, keys := range []string{"l", "l a", "a l", "a l b", "x l", "l x", "l l", "a b c l"} {
			check(t, api.RolePrimary, 10, row{k, name + " " + keys, "-WRONG", "", "="})
		}
	}
	check(t, api.RolePrimary, 10, row{"a='',b b=''", "SUNION b a", "[$ $b]", "", "="}, row{"a='',b b=''", "SINTER b a", "[$]", "", "="}, row{"a='',b b=''", "SDIFF a b", "[$b]", "", "="}, row{"l:list@10 a=1", "SUNION l a", "[$1]", "DEL l", "a=1"})
}

func TestStore(t *testing.T) {
	const k = "a=1,2,3@11 b=2,3,4 c=3,4,5 l:list"
	and := func(more string) string { return k + " " + more }
	check(t, api.RolePrimary, 10,
		// To a key that is not there.
		row{k, "SUNIONSTORE d a b", ":4", "SADD d 1 2 3 4", and("d=1,2,3,4")}, row{k, "SINTERSTORE d a b", ":2", "SADD d 2 3", and("d=2,3")}, row{k, "SDIFFSTORE d a b", ":1", "SADD d 1", and("d=1")}, row{k, "sUnionStore d c", ":3", "SADD d 3 4 5", and("d=3,4,5")}, row{k, "sinterstore d a b c", ":1", "SADD d 3", and("d=3")}, row{k, "sdiffstore d c a b", ":1", "SADD d 5", and("d=5")},
		// To a set, with an end or without.
		row{and("d=x,y"), "SUNIONSTORE d a", ":3", "DEL d | SADD d 1 2 3", and("d=1,2,3")}, row{and("d=x,y@11"), "SUNIONSTORE d a", ":3", "DEL d | SADD d 1 2 3", and("d=1,2,3")}, row{and("d=1,2@11"), "SUNIONSTORE d a", ":3", "DEL d | SADD d 1 2 3", and("d=1,2,3")}, row{and("d=1,2,3,4"), "SUNIONSTORE d a", ":3", "DEL d | SADD d 1 2 3", and("d=1,2,3")},
		// To the same set.
		row{and("d=1,2,3"), "SUNIONSTORE d a", ":3", "", "="}, row{and("d=1,2,3@11"), "SUNIONSTORE d a", ":3", "DEL d | SADD d 1 2 3", and("d=1,2,3")}, row{and("d=3"), "SINTERSTORE d a c", ":1", "", "="}, row{and("d=1,2"), "SDIFFSTORE d a c", ":2", "", "="}, row{k, "SUNIONSTORE b b", ":3", "", "="}, row{k, "SUNIONSTORE b b x b", ":3", "", "="}, row{"a=1@11", "SUNIONSTORE a a", ":1", "DEL a | SADD a 1", "a=1"},
		// To another kind; what looks alike is not the same.
		row{and("d:str"), "SUNIONSTORE d a", ":3", "DEL d | SADD d 1 2 3", and("d=1,2,3")}, row{and("d:list@11"), "SUNIONSTORE d a", ":3", "DEL d | SADD d 1 2 3", and("d=1,2,3")}, row{and("d:zset"), "SDIFFSTORE d a a", ":0", "DEL d", k}, row{"a=a,b d:list", "SUNIONSTORE d a", ":2", "DEL d | SADD d a b", "a=a,b d=a,b"}, row{"a=a,b d:hash@11", "SUNIONSTORE d a", ":2", "DEL d | SADD d a b", "a=a,b d=a,b"},
		// To what is over.
		row{and("d=1,2,3@10"), "SUNIONSTORE d a", ":3", "DEL d | SADD d 1 2 3", and("d=1,2,3")}, row{and("d:list@9"), "SUNIONSTORE d a", ":3", "DEL d | SADD d 1 2 3", and("d=1,2,3")}, row{and("d:list@9"), "SINTERSTORE d a x", ":0", "DEL d", k},
		// To one of the keys.
		row{k, "SUNIONSTORE b a b", ":4", "DEL b | SADD b 1 2 3 4", "a=1,2,3@11 b=1,2,3,4 c=3,4,5 l:list"}, row{k, "SINTERSTORE a a b", ":2", "DEL a | SADD a 2 3", "a=2,3 b=2,3,4 c=3,4,5 l:list"}, row{k, "SDIFFSTORE a a c", ":2", "DEL a | SADD a 1 2", "a=1,2 b=2,3,4 c=3,4,5 l:list"}, row{k, "SDIFFSTORE b a b", ":1", "DEL b | SADD b 1", "a=1,2,3@11 b=1 c=3,4,5 l:list"}, row{k, "SDIFFSTORE b b b", ":0", "DEL b", "a=1,2,3@11 c=3,4,5 l:list"},
		row{and("d=7@10"), "SUNIONSTORE d d b", ":3", "DEL d | SADD d 2 3 4", and("d=2,3,4")}, row{and("d=7@10"), "SUNIONSTORE d b d", ":3", "DEL d | SADD d 2 3 4", and("d=2,3,4")}, row{and("d=2@10"), "SINTERSTORE d b d", ":0", "DEL d", k}, row{and("d=2@10"), "SDIFFSTORE d d b", ":0", "DEL d", k}, row{and("d:list@10"), "SDIFFSTORE d b d", ":3", "DEL d | SADD d 2 3 4", and("d=2,3,4")},
		row{k, "SUNIONSTORE l l a", "-WRONG", "", "="}, row{k, "SUNIONSTORE l a l", "-WRONG", "", "="}, row{k, "SINTERSTORE l x l", "-WRONG", "", "="},
		// An empty answer.
		row{k, "SUNIONSTORE d x", ":0", "", "="}, row{k, "SINTERSTORE d a x", ":0", "", "="}, row{k, "SDIFFSTORE d x a", ":0", "", "="}, row{and("d=1@11"), "SUNIONSTORE d x y", ":0", "DEL d", k}, row{and("d=1"), "SINTERSTORE d a x", ":0", "DEL d", k}, row{and("d:str"), "SDIFFSTORE d b b", ":0", "DEL d", k}, row{k, "SDIFFSTORE a a a", ":0", "DEL a", "b=2,3,4 c=3,4,5 l:list"}, row{"", "SUNIONSTORE d d", ":0", "", "="},
		// Another kind among the keys.
		row{k, "SUNIONSTORE d l", "-WRONG", "", "="}, row{k, "SUNIONSTORE d a l", "-WRONG", "", "="}, row{and("d=1"), "SINTERSTORE d x l", "-WRONG", "", "="}, row{and("d=1@10"), "SDIFFSTORE d l a", "-WRONG", "DEL d", k}, row{and("d=1@10 e=2@10"), "SDIFFSTORE d l e", "-WRONG", "DEL e | DEL d", k}, row{and("d:str"), "SUNIONSTORE d l", "-WRONG", "", "="},
	)
}

// All rows of up to three of some keys, for each way; stored to each of these, too.
func TestCombineAllRowsOfKeys(t *testing.T) {
	t.Parallel()
	const before = "a=1,2,3@11 b=2,3,4 c=3@10 e='',2 l:list"
	var rows [][]string
	for n, from := 0, [][]string{nil}; n < 3; n++ {
		var more [][]string
		for _, row := range from {
			for _, key := range []string{"a", "b", "c", "e", "l", "x"} {
				more = append(more, append(slices.Clone(row), key))
			}
		}
		rows, from = append(rows, more...), more
	}
	for i, row := range rows {
		for _, name := range []string{"sunion", "sinter", "sdiff"} {
			role := roles[i%3]
			newTrio(t, entries(before)).do(t, api.Call{Role: role, Now: 10, Args: append([]string{name}, row...)})
			for _, to := range []string{"a", "b", "c", "e", "l", "x"} {
				newTrio(t, entries(before)).do(t, api.Call{Role: role, Now: 10, Args: append([]string{name + "store", to}, row...)})
			}
		}
	}
}

// Many sets, of many members.
func TestCombineManySets(t *testing.T) {
	t.Parallel()
	m := rand.New(rand.NewPCG(14, 1))
	for range 40 {
		var l []api.Entry
		var keys []string
		for i := range 1 + m.IntN(60) {
			var in []string
			for x := range 100 {
				if m.IntN(100) < 60 {
					in = append(in, strconv.Itoa(x))
				}
			}
			keys = append(keys, "key"+strconv.Itoa(i))
			l = append(l, stay(keys[i], set(append(in, "all")...)))
		}
		for _, name := range []string{"sunion", "sinter", "sdiff"} {
			newTrio(t, l).do(t, api.Call{Role: api.RolePrimary, Args: append([]string{name}, keys...)})
			newTrio(t, l).do(t, api.Call{Role: api.RolePrimary, Args: append([]string{name + "store", "d"}, keys...)})
		}
	}
}

// What is stored is told in commands of at most a thousand members.
func TestStoreOfALongRow(t *testing.T) {
	t.Parallel()
	for _, n := range []int{1, 999, 1000, 1001, 1999, 2000, 2001, 3000, 3001} {
		l := texts(0, n)
		from := []api.Entry{
			stay("a", set(l[:n/2+1]...)), stay("b", set(l[n/2:]...)), ends("l", set(l...), 11), stay("m", set(append(texts(n, 9), l...)...)), stay("x", set(texts(n, 20)...)),
		}
		for _, args := range []string{"SUNIONSTORE k a b", "SINTERSTORE k m l", "SDIFFSTORE k m x"} {
			for _, was := range [][]api.Entry{nil, {stay("k", set(l[1:]...))}, {ends("k", set(l...), 11)}, {ends("k", set("z"), 10)}, {stay("k", values["list"])}} {
				if len(was) > 0 && len(was[0].V.L) == 0 { // a set of one without it
					continue
				}
				before := append(slices.Clone(from), was...)
				c := api.Call{Role: api.RolePrimary, Now: 10, Args: words(args)}
				r, told := sets.Do(load(t, before), c)
				if len(was) > 0 {
					if !slices.Equal(told[0], []string{"DEL", "k"}) {
						t.Errorf("%s tells %s first", args, strings.Join(told[0], " "))
					}
					told = told[1:]
				}
				checkRow(t, args+" of "+strconv.Itoa(n), told, "SADD", n)
				if show(r) != ":"+strconv.Itoa(n) {
					t.Errorf("%s of %d = %s", args, n, show(r))
				}
				newTrio(t, before).do(t, c)
			}
		}
	}
}
