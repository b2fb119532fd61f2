package exec_test

import (
	"fmt"
	"slices"
	"testing"

	"millpond/api"
	"millpond/exec"
	"millpond/image"
)

// Full stores and long collections: what is told of them fits the replica, too

// filled are so many entries: at most ten that are given, and others, of numbers of six digits.
func filled(n int, l ...api.Entry) []api.Entry {
	for i := 0; len(l) < n; i++ {
		if name := fmt.Sprintf("%06d", i); !slices.ContainsFunc(l[:min(len(l), 10)], func(e api.Entry) bool { return e.Key == name }) {
			l = append(l, stay(name, str("v")))
		}
	}
	return l
}

// alikeAt: have both spaces the same at some keys, and as many entries?
func (x pair) alikeAt(t *testing.T, done string, keys []string) {
	t.Helper()
	if x.primary.Len() != x.replica.Len() {
		t.Fatalf("behind %s there are %d entries, the replica has %d", done, x.primary.Len(), x.replica.Len())
	}
	for _, key := range keys {
		one, there := x.primary.Look(key)
		other, too := x.replica.Look(key)
		if there != too || !image.Same([]api.Entry{one}, []api.Entry{other}) {
			t.Fatalf("behind %s there is%s; the replica has%s", done, wrote([]api.Entry{one}), wrote([]api.Entry{other}))
		}
	}
}

// P18.4: calls of all commands on stores that are full, or nearly so.
func TestTheSameOnFullStores(t *testing.T) {
	t.Parallel()
	m := newMaker(10)
	m.keys = []string{"a", "b", "c", "", "\xff", "000001", "new", "newer", "newest"}
	full := map[bool]int{}
	for i := range 12 {
		x := newPair(t, filled(api.MaxKeys-i%4, m.entries()...))
		for range 400 {
			c := m.by(api.RolePrimary)
			if slices.Contains([]string{"keys", "flushall", "randomkey"}, c.Args[0]) {
				continue
			}
			r, _ := x.do(t, c)
			full[show(r) == "-ERR store is full"]++
			x.alikeAt(t, ask(c), m.keys)
		}
		x.alike(t, "calls on a full store")
		x.do(t, by(api.RolePrimary, "flushall"))
		x.alike(t, "flushall")
	}
	if full[true] < 100 || full[false] < 1000 {
		t.Errorf("of %d calls it was told that the store is full, of %d not", full[true], full[false])
	}
}

// longRows are values with so many items, members, fields, one of each kind of collection.
func longRows(n int) map[string]api.Value {
	list, set := api.Value{Kind: api.KList}, api.Value{Kind: api.KSet}
	zset, hash := api.Value{Kind: api.KZset}, api.Value{Kind: api.KHash}
	for i := range n {
		name := fmt.Sprintf("%06d", i)
		list.L, set.L = append(list.L, name), append(set.L, name)
		zset.Z, hash.H = append(zset.Z, api.Scored{M: name, N: int64(i / 7)}), append(hash.H, api.Field{F: name, V: "5"})
	}
	return map[string]api.Value{"l": list, "s": set, "z": zset, "h": hash}
}

// P18.4: calls of all commands on collections that are as long as they may be, or nearly so.
func TestTheSameOfLongCollections(t *testing.T) {
	t.Parallel()
	m, large := newMaker(11), 0
	m.numbers = []string{"0", "1", "-1", "2", "999", "1000", "1001", "2000", "2500", "-1500", "65536", "65537", "64000", "5"}
	own := map[byte]string{'l': "l", 'r': "l", 's': "s", 'z': "z", 'h': "h"}
	sizes := []int{api.MaxLen, api.MaxLen - 1, 3001, 2000, 1001, 1000}
	for i := range 18 {
		var l []api.Entry
		for key, v := range longRows(sizes[i%len(sizes)]) {
			l = append(l, ends(key, v, 20+m.IntN(30)))
		}
		x := newPair(t, l)
		for range 40 {
			form := m.of(all()...)
			if m.IntN(3) == 0 {
				form = m.of("rpush K V+", "sadd K M+", "zadd K N M", "hset K M V M V")
			}
			m.keys = []string{"l", "s", "z", "h", "new"}
			if key, there := own[form[0]]; there && m.IntN(5) > 0 {
				m.keys = []string{key}
			}
			c := api.Call{Role: api.RolePrimary, Now: m.IntN(25), Draw: m.Uint64(), Args: m.args(form)}
			if i%2 == 0 && slices.Contains([]string{"del", "ltrim", "flushall", "rename", "expire", "getdel"}, c.Args[0]) {
				continue
			}
			r, _ := x.do(t, c)
			if show(r) == "-ERR collection is too large" {
				large++
			}
			x.alikeAt(t, ask(c), []string{"l", "s", "z", "h", "new"})
		}
	}
	if large < 5 {
		t.Errorf("of %d calls it was told that a collection is too large", large)
	}
}

// P18.4: rows of more than 1000 members are told in several commands; the replica does them all.
func TestTheSameOfLongRows(t *testing.T) {
	t.Parallel()
	for _, args := range []string{
		"SPOP s 2500", "SPOP s 65536", "SUNIONSTORE new s", "SINTERSTORE new s s", "SDIFFSTORE h s new", "ZPOPMIN z 3001", "ZPOPMAX z 1001", "ZREMRANGEBYRANK z 0 -2", "ZREMRANGEBYSCORE z -inf (200", "LPOP l 2999", "RPOP l 65536", "RENAME s z", "EXPIRE s 0", "FLUSHALL",
	} {
		var l []api.Entry
		for key, v := range longRows(3001) {
			l = append(l, stay(key, v))
		}
		x := newPair(t, l)
		if r, told := x.do(t, by(api.RolePrimary, words(args)...)); r.Kind == api.RError || len(told) == 0 {
			t.Errorf("%s = %s, told %d", args, short(show(r)), len(told))
		}
		x.alike(t, args)
	}
}

// P18.2: a store that is full, and a collection that is too large, are errors in a stream, at each place of it.
func TestApplyOnGreatSpaces(t *testing.T) {
	t.Parallel()
	long := longRows(api.MaxLen)
	var l []api.Entry
	for key, v := range long {
		l = append(l, stay(key, v))
	}
	good := told("SET 000001 w | SET 000002 x")
	for _, fault := range []string{"SET new v", "MSET 000001 y new v", "MSETNX new v newer v", "APPEND new v", "LPUSH new v", "SADD new v", "ZADD new 1 v", "HSET new f v", "INCR new", "SUNIONSTORE new s",
		"RPUSH l v", "LINSERT l BEFORE 000001 v", "SADD s v", "ZADD z 1 v", "ZINCRBY z 1 v", "HSET h v v", "HSETNX h v v", "HINCRBY h v 1", "SMOVE t s v", "LMOVE k l LEFT LEFT", "RPOPLPUSH k l"} {
		before := filled(api.MaxKeys, append(slices.Clone(l), stay("t", api.Value{Kind: api.KSet, L: []string{"v"}}), stay("k", api.Value{Kind: api.KList, L: []string{"v", "v"}}))...)
		s := load(t, before)
		for at := range len(good) + 1 {
			stream := slices.Insert(slices.Clone(good), at, words(fault))
			if n, e := exec.Apply(s, stream...); n != at || e != api.ErrStream {
				t.Errorf("Apply with %s at %d = %d, %v", fault, at, n, e)
			}
			for i, key := range []string{"000001", "000002"} {
				want := "v"
				if i < at {
					want = []string{"w", "x"}[i]
				}
				if e, _ := s.Look(key); e.V.S != want {
					t.Errorf("Apply with %s at %d leaves %s = %s", fault, at, key, e.V.S)
				}
			}
		}
		if after := s.Image(); len(after) != api.MaxKeys || !slices.ContainsFunc(after, func(e api.Entry) bool {
			return e.Key == "l" && image.Same([]api.Entry{e}, []api.Entry{stay("l", long["l"])})
		}) {
			t.Errorf("Apply with %s leaves %d entries", fault, len(after))
		}
	}
}
