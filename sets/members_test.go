package sets_test

import (
	"slices"
	"strconv"
	"testing"

	"millpond/api"
	"millpond/sets"
)

func TestAdd(t *testing.T) {
	check(t, api.RolePrimary, 10,
		row{"", "SADD k a", ":1", "SADD k a", "k=a"}, row{"", "SADD k c a b", ":3", "SADD k a b c", "k=a,b,c"}, row{"", "SADD k b a b a b", ":2", "SADD k a b", "k=a,b"}, row{"", "SADD k ''", ":1", "SADD k ''", "k=''"},
		row{"k=b@11", "SADD k c a", ":2", "SADD k a c", "k=a,b,c@11"}, row{"k=b,d@11", "sAdd k c d b a", ":2", "SADD k a c", "k=a,b,c,d@11"}, row{"k=a,b@11", "SADD k b a b", ":0", "", "="}, row{"k=a,b", "SADD k a", ":0", "", "="}, row{"k=a", "sadd k '' a ''", ":1", "SADD k ''", "k='',a"},
		row{"k=10,9", "SADD k 1 99 B \u00e4 \xff", ":5", "SADD k 1 99 B \u00e4 \xff", "k=1,10,9,99,B,\u00e4,\xff"}, row{"k=A", "SADD k a", ":1", "SADD k a", "k=A,a"}, row{"=x", "SADD '' a", ":1", "SADD '' a", "=a,x"}, row{"k=x", "SADD K a", ":1", "SADD K a", "K=a k=x"},
		row{"k:str", "SADD k a", "-WRONG", "", "="}, row{"k:list", "SADD k a", "-WRONG", "", "="}, row{"k:zset@11", "SADD k a b", "-WRONG", "", "="}, row{"k:hash", "SADD k a", "-WRONG", "", "="},
	)
}

func TestRemove(t *testing.T) {
	check(t, api.RolePrimary, 10,
		row{"k=a,b,c@11", "SREM k b", ":1", "SREM k b", "k=a,c@11"}, row{"k=a,b,c@11", "SREM k c a", ":2", "SREM k a c", "k=b@11"}, row{"k=a,b,c", "srem k c c a c a", ":2", "SREM k a c", "k=b"}, row{"k=a,b,c", "SREM k x b '' y", ":1", "SREM k b", "k=a,c"}, row{"k='',a", "SREM k ''", ":1", "SREM k ''", "k=a"},
		row{"k=a,b,c", "SREM k x", ":0", "", "="}, row{"k=a,b,c@11", "SREM k x y '' x A", ":0", "", "="}, row{"", "SREM k a b", ":0", "", "="},
		row{"k=a@11", "SREM k a", ":1", "SREM k a", ""}, row{"k=a,b,c", "SREM k c b a", ":3", "SREM k a b c", ""}, row{"k=a,b,c@11 n=a", "SREM k x c b y a a", ":3", "SREM k a b c", "n=a"},
		row{"k:str", "SREM k a", "-WRONG", "", "="}, row{"k:list", "SREM k a b", "-WRONG", "", "="}, row{"k:zset", "SREM k a", "-WRONG", "", "="}, row{"k:hash@11", "SREM k a", "-WRONG", "", "="},
	)
}

func TestQuestions(t *testing.T) {
	check(t, api.RolePrimary, 10,
		row{"k=a,b@11", "SISMEMBER k a", ":1", "", "="}, row{"k=a,b", "sismember k b", ":1", "", "="}, row{"k=a,b", "SISMEMBER k c", ":0", "", "="}, row{"k=a,b", "SISMEMBER k A", ":0", "", "="}, row{"k=a,b", "SISMEMBER k ''", ":0", "", "="}, row{"k=''", "SISMEMBER k ''", ":1", "", "="}, row{"", "SISMEMBER k a", ":0", "", "="},
		row{"k=a,b@11", "SMISMEMBER k a", "[:1]", "", "="}, row{"k=a,b", "SMISMEMBER k c", "[:0]", "", "="}, row{"k=a,b", "SMISMEMBER k c b a c b", "[:0 :1 :1 :0 :1]", "", "="}, row{"k='',b", "sMisMember k b '' a ''", "[:1 :1 :0 :1]", "", "="}, row{"", "SMISMEMBER k a b a", "[:0 :0 :0]", "", "="},
		row{"k=a,b,''@11", "SCARD k", ":3", "", "="}, row{"k=a", "scard k", ":1", "", "="}, row{"", "SCARD k", ":0", "", "="},
		row{"k=c,a,b@11", "SMEMBERS k", "[$a $b $c]", "", "="}, row{"k=10,9,1,''", "smembers k", "[$ $1 $10 $9]", "", "="}, row{"", "SMEMBERS k", "[]", "", "="},
		row{"k:str", "SISMEMBER k a", "-WRONG", "", "="}, row{"k:list", "SISMEMBER k a", "-WRONG", "", "="}, row{"k:zset", "SMISMEMBER k a", "-WRONG", "", "="}, row{"k:hash", "SMISMEMBER k a b", "-WRONG", "", "="}, row{"k:list@11", "SCARD k", "-WRONG", "", "="}, row{"k:str", "SCARD k", "-WRONG", "", "="}, row{"k:zset", "SMEMBERS k", "-WRONG", "", "="}, row{"k:hash", "SMEMBERS k", "-WRONG", "", "="},
	)
}

func TestMove(t *testing.T) {
	check(t, api.RolePrimary, 10,
		row{"a=1,2,3@11 b=x,y@12", "SMOVE a b 2", ":1", "SREM a 2 | SADD b 2", "a=1,3@11 b=2,x,y@12"}, row{"a=1,2 b=x", "smovE a b 1", ":1", "SREM a 1 | SADD b 1", "a=2 b=1,x"}, row{"a='',1 b=x", "SMOVE a b ''", ":1", "SREM a '' | SADD b ''", "a=1 b='',x"},
		// What b has already.
		row{"a=1,2@11 b=2,x@12", "SMOVE a b 2", ":1", "SREM a 2", "a=1@11 b=2,x@12"}, row{"a=2 b=2@12", "SMOVE a b 2", ":1", "SREM a 2", "b=2@12"},
		// The last one.
		row{"a=1@11 b=x@12", "SMOVE a b 1", ":1", "SREM a 1 | SADD b 1", "b=1,x@12"}, row{"a=1@11", "SMOVE a b 1", ":1", "SREM a 1 | SADD b 1", "b=1"},
		// To a key that is not there.
		row{"a=1,2@11", "SMOVE a b 1", ":1", "SREM a 1 | SADD b 1", "a=2@11 b=1"}, row{"a=1,2@11 b=x@10", "SMOVE a b 1", ":1", "DEL b | SREM a 1 | SADD b 1", "a=2@11 b=1"}, row{"a=1,2@10 b=x@10", "SMOVE a b 1", ":0", "DEL a | DEL b", ""}, row{"a=1,2@11 b=1@10", "SMOVE a b 1", ":1", "DEL b | SREM a 1 | SADD b 1", "a=2@11 b=1"},
		// What a has not.
		row{"a=1,2 b=x", "SMOVE a b 3", ":0", "", "="}, row{"a=1,2 b=x", "SMOVE a b x", ":0", "", "="}, row{"b=x", "SMOVE a b x", ":0", "", "="}, row{"a=1", "SMOVE a b x", ":0", "", "="}, row{"", "SMOVE a b 1", ":0", "", "="},
		// One key.
		row{"a=1,2@11", "SMOVE a a 1", ":1", "", "="}, row{"a=1", "SMOVE a a 1", ":1", "", "="}, row{"a=1,2", "SMOVE a a 3", ":0", "", "="}, row{"", "SMOVE a a 3", ":0", "", "="}, row{"a:list", "SMOVE a a 3", "-WRONG", "", "="},
		// Other kinds.
		row{"a:list b=x", "SMOVE a b a", "-WRONG", "", "="}, row{"a=1 b:str", "SMOVE a b 1", "-WRONG", "", "="}, row{"a=1 b:zset", "SMOVE a b 2", "-WRONG", "", "="}, row{"b:hash", "SMOVE a b 1", "-WRONG", "", "="}, row{"a:str", "SMOVE a b 1", "-WRONG", "", "="}, row{"a:str b:hash", "SMOVE a b 1", "-WRONG", "", "="}, row{"a:list@10 b=x", "SMOVE a b b", ":0", "DEL a", "b=x"},
	)
}

// From and to each of: no key, a set, a key that is over, one of another kind; each of some texts.
func TestMoveFromAndToEach(t *testing.T) {
	have := []string{"", "X=a", "X=a,b", "X=b,c@11", "X=a@10", "X=a,b@9", "X:list", "X:hash@10", "X:str@11"}
	for _, a := range have {
		for _, b := range have {
			text := keyed(a, "a") + " " + keyed(b, "b")
			for _, args := range []string{"smove a b a", "smove a b b", "smove b a a", "smove b a c", "smove a a a", "smove b b x"} {
				for _, role := range roles {
					newTrio(t, entries(text)).do(t, api.Call{Role: role, Now: 10, Args: words(args)})
				}
			}
		}
	}
}

// keyed is an entry's text with its key in the place of X.
func keyed(text, key string) string {
	if text == "" {
		return ""
	}
	return key + text[1:]
}

// texts are so many texts that rise, from one on.
func texts(from, n int) []string {
	l := make([]string, n)
	for i := range l {
		l[i] = strconv.Itoa(1000000 + from + i)
	}
	return l
}

// As many members as a call has room for are told by one command: SADD and SREM of a client tell no long row.
func TestAsManyMembersAsACallHas(t *testing.T) {
	for _, n := range []int{999, 1000, 1001, 1021, 1022} {
		l := texts(0, n)
		back := slices.Clone(l)
		slices.Reverse(back)
		for _, name := range []string{"SADD", "SREM"} {
			var before []api.Entry
			if name == "SREM" {
				before = []api.Entry{stay("k", set(append(texts(0, n), "z")...))}
			}
			c := api.Call{Role: api.RolePrimary, Now: 10, Args: append([]string{name, "k"}, back...)}
			r, told := sets.Do(load(t, before), c)
			if show(r) != ":"+strconv.Itoa(n) || !sameTold(told, [][]string{append([]string{name, "k"}, l...)}) {
				t.Errorf("%s of %d = %s, told %d commands", name, n, show(r), len(told))
			}
			newTrio(t, before).do(t, c)
		}
	}
}
