package keys_test

import (
	"math"
	"slices"
	"strconv"
	"testing"

	"millpond/api"
	"millpond/image"
	"millpond/keys"
)

func TestDelAndExists(t *testing.T) {
	const some = "a=1 b:list@11 c:set d=4@10 e:hash@9"
	check(t, api.RolePrimary, 10,
		row{some, "DEL a", ":1", "DEL a", "b:list@11 c:set d=4@10 e:hash@9"}, row{some, "del b", ":1", "DEL b", "a=1 c:set d=4@10 e:hash@9"}, row{some, "dEl c a", ":2", "DEL c | DEL a", "b:list@11 d=4@10 e:hash@9"}, row{some, "DEL a a a", ":1", "DEL a", "b:list@11 c:set d=4@10 e:hash@9"}, row{some, "DEL b a b c a", ":3", "DEL b | DEL a | DEL c", "d=4@10 e:hash@9"},
		row{some, "DEL x", ":0", "", "="}, row{some, "DEL x y x A", ":0", "", "="}, row{some, "DEL x a y", ":1", "DEL a", "b:list@11 c:set d=4@10 e:hash@9"}, row{"", "DEL a", ":0", "", "="}, row{some, "DEL", "none", "", "="}, row{"=v", "DEL ''", ":1", "DEL ''", ""},
		row{some, "DEL d", ":0", "DEL d", "a=1 b:list@11 c:set e:hash@9"}, row{some, "DEL a d b e c", ":3", "DEL a | DEL d | DEL b | DEL e | DEL c", ""}, row{some, "DEL e d e d", ":0", "DEL e | DEL d", "a=1 b:list@11 c:set"}, row{some, "DEL d x a d", ":1", "DEL d | DEL a", "b:list@11 c:set e:hash@9"},
		row{some, "EXISTS a", ":1", "", "="}, row{some, "exists b c", ":2", "", "="}, row{some, "eXISTs a a", ":2", "", "="}, row{some, "EXISTS a b a x a", ":4", "", "="}, row{some, "EXISTS x", ":0", "", "="}, row{some, "EXISTS x x A ''", ":0", "", "="}, row{"", "EXISTS a b", ":0", "", "="}, row{some, "EXISTS", "none", "", "="}, row{"=v", "EXISTS '' ''", ":2", "", "="},
		row{some, "EXISTS d", ":0", "DEL d", "a=1 b:list@11 c:set e:hash@9"}, row{some, "EXISTS a d a e c d", ":3", "DEL d | DEL e", "a=1 b:list@11 c:set"}, row{some, "EXISTS e x d e", ":0", "DEL e | DEL d", "a=1 b:list@11 c:set"},
	)
	check(t, api.RolePrimary, 10, // keys with a command's name
		row{"DEL=v a=1", "DEL a", ":1", "DEL a", "DEL=v"}, row{"DEL=v@9 a=1", "DEL a", ":1", "DEL a", "DEL=v@9"}, row{"del=v a=1", "del a a", ":1", "DEL a", "del=v"}, row{"DEL=v", "DEL DEL", ":1", "DEL DEL", ""},
		row{"EXISTS=v", "EXISTS a", ":0", "", "="}, row{"EXISTS=v@9 a=1", "EXISTS a a", ":2", "", "="}, row{"exists=v a=1", "exists a exists", ":2", "", "="},
	)
	check(t, api.RoleStream, 10, row{some, "DEL a d b e c", ":5", "DEL a | DEL d | DEL b | DEL e | DEL c", ""}, row{some, "DEL d d", ":1", "DEL d", "a=1 b:list@11 c:set e:hash@9"}, row{some, "EXISTS d e d x", ":3", "", "="})
	check(t, api.RoleReader, 10, row{some, "DEL a d b e c", ":3", "DEL a | DEL b | DEL c", "d=4@10 e:hash@9"}, row{some, "EXISTS d e d a x", ":1", "", "="})
}

// As many keys as one command may have; told in the order in which they stand there.
func TestDelAndExistsOfManyKeys(t *testing.T) {
	var l []api.Entry
	var args []string
	var all, overs [][]string
	for i := range 1023 {
		e := stay(strconv.Itoa(i*7%1023), str("v"))
		if i%3 == 0 {
			e.At = i % 11
		}
		if i%5 > 0 {
			l = append(l, e)
			all = append(all, []string{"DEL", e.Key})
			if i%3 == 0 && i%11 <= 5 {
				overs = append(overs, []string{"DEL", e.Key})
			}
		}
		args = append(args, e.Key)
	}
	for _, name := range []string{"DEL", "EXISTS"} {
		s, left := load(t, l), 0
		r, told := keys.Do(s, api.Call{Role: api.RolePrimary, Now: 5, Args: append([]string{name}, args...)})
		want := all
		if name == "EXISTS" {
			want, left = overs, len(all)-len(overs)
		}
		if show(r) != ":"+strconv.Itoa(len(all)-len(overs)) || !sameTold(told, want) || s.Len() != left {
			t.Errorf("%s of 1023 = %s, told %d, and leaves %d", name, show(r), len(told), s.Len())
		}
		none(t, "too many", s, api.Call{Role: api.RolePrimary, Now: 5, Args: append([]string{name, "0"}, args...)})
	}
	s := load(t, entries("a=1"))
	for name, want := range map[string]string{"EXISTS": ":1023", "DEL": ":1"} {
		if r, _ := keys.Do(s, api.Call{Role: api.RolePrimary, Args: append([]string{name}, slices.Repeat([]string{"a"}, 1023)...)}); name == "EXISTS" && s.Len() == 1 && show(r) != want || name == "DEL" && show(r) != want {
			t.Errorf("%s of one key, 1023 times, = %s", name, show(r))
		}
	}
}

func TestType(t *testing.T) {
	for _, role := range roles {
		check(t, role, 10,
			row{"k=v", "TYPE k", "+string", "", "="}, row{"k=", "type k", "+string", "", "="}, row{"k:list", "TYPE k", "+list", "", "="}, row{"k:set@11", "tYpE k", "+set", "", "="}, row{"k:zset", "TYPE k", "+zset", "", "="}, row{"k:hash@99", "TYPE k", "+hash", "", "="},
			row{"", "TYPE k", "+none", "", "="}, row{"k=v", "TYPE K", "+none", "", "="}, row{"k=v", "TYPE ''", "+none", "", "="}, row{"k=v n:list", "TYPE n", "+list", "", "="}, row{"k=v", "TYPE k k", "none", "", "="}, row{"k=v", "TYPE", "none", "", "="},
		)
	}
	for _, kind := range []string{"k=v", "k:list", "k:set", "k:zset", "k:hash"} {
		check(t, api.RolePrimary, 10, row{kind + "@10", "TYPE k", "+none", "DEL k", ""}, row{kind + "@11 o=x@9", "TYPE o", "+none", "DEL o", kind + "@11"})
		check(t, api.RoleReader, 10, row{kind + "@10", "TYPE k", "+none", "", "="})
	}
}

func TestRename(t *testing.T) {
	for _, role := range roles {
		check(t, role, 10,
			row{"k=v", "RENAME k n", "+OK", "RENAME k n", "n=v"}, row{"k=v@11", "rename k n", "+OK", "RENAME k n", "n=v@11"}, row{"k:zset@99", "rEnAmE k ''", "+OK", "RENAME k ''", ":zset@99"}, row{"=v", "RENAME '' k", "+OK", "RENAME '' k", "k=v"},
			row{"k=v n=w", "RENAME k n", "+OK", "RENAME k n", "n=v"}, row{"k=v n=v", "RENAME k n", "+OK", "RENAME k n", "n=v"}, row{"k=v@11 n=w", "RENAME k n", "+OK", "RENAME k n", "n=v@11"}, row{"k=v n=w@11", "RENAME k n", "+OK", "RENAME k n", "n=v"}, row{"k:list n=w@11", "RENAME k n", "+OK", "RENAME k n", "n:list"}, row{"k=v@12 n:hash@11", "RENAME k n", "+OK", "RENAME k n", "n=v@12"}, row{"k:set n:set", "RENAME k n", "+OK", "RENAME k n", "n:set"},
			row{"k=v n=w o:list@11", "RENAME k n", "+OK", "RENAME k n", "n=v o:list@11"}, row{"k=v", "RENAME k k", "+OK", "", "="}, row{"k:hash@11 n=w", "RENAME k k", "+OK", "", "="}, row{"k=v", "RENAME k K", "+OK", "RENAME k K", "K=v"},
			row{"", "RENAME k n", "-NOKEY", "", "="}, row{"n=w", "RENAME k n", "-NOKEY", "", "="}, row{"", "RENAME k k", "-NOKEY", "", "="}, row{"K=v", "rename k n", "-NOKEY", "", "="}, row{"k=v", "RENAME k", "none", "", "="}, row{"k=v", "RENAME k n o", "none", "", "="},
			row{"k=v", "RENAMENX k n", ":1", "RENAME k n", "n=v"}, row{"k=v@11", "renamenx k n", ":1", "RENAME k n", "n=v@11"}, row{"k:zset@99", "rEnAmEnX k ''", ":1", "RENAME k ''", ":zset@99"}, row{"k=v o:list@11", "RENAMENX k n", ":1", "RENAME k n", "n=v o:list@11"},
			row{"k=v n=w", "RENAMENX k n", ":0", "", "="}, row{"k=v n=v", "RENAMENX k n", ":0", "", "="}, row{"k=v@11 n:hash@11", "RENAMENX k n", ":0", "", "="}, row{"k=v", "RENAMENX k k", ":0", "", "="}, row{"k:set@11", "RENAMENX k k", ":0", "", "="},
			row{"", "RENAMENX k n", "-NOKEY", "", "="}, row{"n=w", "RENAMENX k n", "-NOKEY", "", "="}, row{"", "RENAMENX k k", "-NOKEY", "", "="}, row{"k=v", "RENAMENX k", "none", "", "="}, row{"k=v", "RENAMENX k n o", "none", "", "="},
		)
	}
	check(t, api.RolePrimary, 10,
		row{"k=v n=w@10", "RENAME k n", "+OK", "DEL n | RENAME k n", "n=v"}, row{"k=v n:list@9", "RENAME k n", "+OK", "DEL n | RENAME k n", "n=v"}, row{"k=v@10 n=w", "RENAME k n", "-NOKEY", "DEL k", "n=w"}, row{"k=v@10 n=w@10", "RENAME k n", "-NOKEY", "DEL k", "n=w@10"}, row{"k=v@10", "RENAME k k", "-NOKEY", "DEL k", ""},
		row{"k=v n=w@10", "RENAMENX k n", ":1", "DEL n | RENAME k n", "n=v"}, row{"k=v@11 n:list@9", "RENAMENX k n", ":1", "DEL n | RENAME k n", "n=v@11"}, row{"k=v@10 n=w", "RENAMENX k n", "-NOKEY", "DEL k", "n=w"}, row{"k=v@10 n=w@10", "RENAMENX k n", "-NOKEY", "DEL k", "n=w@10"}, row{"k=v@10", "RENAMENX k k", "-NOKEY", "DEL k", ""},
	)
	check(t, api.RoleReader, 10,
		row{"k=v n=w@10", "RENAME k n", "+OK", "RENAME k n", "n=v"}, row{"k=v@11 n:list@9", "RENAME k n", "+OK", "RENAME k n", "n=v@11"}, row{"k=v@10 n=w", "RENAME k n", "-NOKEY", "", "="}, row{"k=v@10", "RENAME k k", "-NOKEY", "", "="},
		row{"k=v n=w@10", "RENAMENX k n", ":1", "RENAME k n", "n=v"}, row{"k:hash n:list@9", "RENAMENX k n", ":1", "RENAME k n", "n:hash"}, row{"k=v@10 n=w@10", "RENAMENX k n", "-NOKEY", "", "="},
	)
	check(t, api.RoleStream, 10,
		row{"k=v n=w@10", "RENAME k n", "+OK", "RENAME k n", "n=v"}, row{"k=v@10 n=w", "RENAME k n", "+OK", "RENAME k n", "n=v@10"}, row{"k=v@0", "RENAME k k", "+OK", "", "="},
		row{"k=v n=w@10", "RENAMENX k n", ":0", "", "="}, row{"k=v@9", "RENAMENX k n", ":1", "RENAME k n", "n=v@9"}, row{"k=v@9 n=w@8", "RENAMENX k n", ":0", "", "="},
	)
}

// P17.4: behind RENAME the other key has what the key had, and the key is gone; no others change.
func TestNames(t *testing.T) {
	t.Parallel()
	m := newMaker(3)
	for range 20000 {
		before, role, now := load(t, m.entries()).Image(), roles[m.IntN(len(roles))], m.IntN(25)
		s, key, other, name := load(t, before), m.key(), m.key(), m.of("RENAME", "RENAMENX")
		r, told := keys.Do(s, api.Call{Role: role, Now: now, Args: []string{name, key, other}})
		done := len(told) > 0 && told[len(told)-1][0] == "RENAME"
		want := before
		for _, out := range told {
			if out[0] == "DEL" {
				want, _ = image.Del(want, out[1])
			}
		}
		e, _ := image.Find(before, key)
		if done {
			want, _ = image.Del(want, key)
			want, _ = image.Put(want, api.Entry{Key: other, V: e.V, At: e.At})
		}
		wantTold := []string{"RENAME", key, other}
		if done && (key == other || !slices.Equal(told[len(told)-1], wantTold) || r.Kind == api.RError) {
			t.Fatalf("%s %q %q of%s = %s, told %s", name, key, other, wrote(before), show(r), wroteTold(told))
		}
		if !done && (show(r) == ":1" || show(r) == "+OK" && key != other) {
			t.Fatalf("%s %q %q of%s = %s, told %s", name, key, other, wrote(before), show(r), wroteTold(told))
		}
		holds(t, name+" "+key+" "+other+" of"+wrote(before), s, want)
	}
}

// What goes along is all of a value, however long.
func TestRenameOfLongValues(t *testing.T) {
	list := api.Value{Kind: api.KList, L: make([]string, 65536)}
	zset := api.Value{Kind: api.KZset}
	for i := range 65536 {
		list.L[i] = strconv.Itoa(i % 7)
		zset.Z = append(zset.Z, api.Scored{M: strconv.Itoa(1000000 + i), N: math.MinInt64 + int64(i)})
	}
	for _, v := range []api.Value{list, zset, str(most)} {
		s := load(t, []api.Entry{ends("k", v, 99), stay("n", str("w"))})
		if r, _ := keys.Do(s, api.Call{Role: api.RolePrimary, Args: []string{"RENAME", "k", "n"}}); show(r) != "+OK" {
			t.Errorf("RENAME = %s", show(r))
		}
		holds(t, "RENAME of a long value", s, []api.Entry{ends("n", v, 99)})
	}
}
