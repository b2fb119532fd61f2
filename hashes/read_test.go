package hashes_test

import (
	"slices"
	"strconv"
	"testing"

	"millpond/api"
	"millpond/hashes"
)

func TestGet(t *testing.T) {
	const k = "k=a:1,b:,c:three@11"
	check(t, api.RolePrimary, 10,
		row{k, "HGET k a", "$1", "", "="}, row{k, "hget k b", "$", "", "="}, row{k, "hGeT k c", "$three", "", "="}, row{k, "HGET k x", "nil", "", "="}, row{k, "HGET k A", "nil", "", "="}, row{k, "HGET k ''", "nil", "", "="}, row{"k=:5", "HGET k ''", "$5", "", "="}, row{"k=a:\xff\x00", "HGET k a", "$\xff\x00", "", "="}, row{"", "HGET k a", "nil", "", "="}, row{k, "HGET K a", "nil", "", "="}, row{k, "HGET k a b", "none", "", "="}, row{k, "HGET k", "none", "", "="},
		row{k, "HMGET k a", "[$1]", "", "="}, row{k, "hmget k c x b a", "[$three nil $ $1]", "", "="}, row{k, "HMGET k a a x a x", "[$1 $1 nil $1 nil]", "", "="}, row{k, "HMGET k x", "[nil]", "", "="}, row{k, "HMGET k '' x A", "[nil nil nil]", "", "="}, row{"k=:5,a:", "HMGET k a ''", "[$ $5]", "", "="}, row{"", "HMGET k a", "[nil]", "", "="}, row{"", "HMGET k a b a", "[nil nil nil]", "", "="}, row{k, "HMGET k", "none", "", "="},
		row{k, "HEXISTS k a", ":1", "", "="}, row{k, "hexists k b", ":1", "", "="}, row{k, "HEXISTS k x", ":0", "", "="}, row{k, "HEXISTS k ''", ":0", "", "="}, row{k, "HEXISTS k C", ":0", "", "="}, row{"k=:", "HEXISTS k ''", ":1", "", "="}, row{"", "HEXISTS k a", ":0", "", "="}, row{k, "HEXISTS k a b", "none", "", "="},
		row{k, "HSTRLEN k a", ":1", "", "="}, row{k, "HSTRLEN k b", ":0", "", "="}, row{k, "hstrlen k c", ":5", "", "="}, row{k, "HSTRLEN k x", ":0", "", "="}, row{"k=a:\u00e4\x00", "HSTRLEN k a", ":3", "", "="}, row{"k=:12", "HSTRLEN k ''", ":2", "", "="}, row{"", "HSTRLEN k a", ":0", "", "="}, row{k, "HSTRLEN k", "none", "", "="},
	)
	s := load(t, []api.Entry{stay("k", api.Value{Kind: api.KHash, H: []api.Field{{F: most, V: most}}})})
	for _, name := range []string{"hget", "hmget", "hexists", "hstrlen", "hvals", "hlen"} {
		args := []string{name, "k", most}
		if arities[name] == 2 {
			args = args[:2]
		}
		want := map[string]string{"hget": "$" + most, "hmget": "[$" + most + "]", "hexists": ":1", "hstrlen": ":65536", "hvals": "[$" + most + "]", "hlen": ":1"}[name]
		if r, _ := hashes.Do(s, api.Call{Role: api.RolePrimary, Args: args}); show(r) != want {
			t.Errorf("%s of a long field = %s", name, short(show(r)))
		}
	}
}

func TestAll(t *testing.T) {
	const k, odd = "k=c:3,a:1,b:@11", "k=b:1,abc:2,ab:2,:3,\x00:4,\xff:5,\u00e4:6,B:7,10:8,9:"
	check(t, api.RolePrimary, 10,
		row{k, "HLEN k", ":3", "", "="}, row{"k=a:1", "hlen k", ":1", "", "="}, row{"k=:", "HLen k", ":1", "", "="}, row{"", "HLEN k", ":0", "", "="}, row{odd, "HLEN k", ":10", "", "="}, row{k, "HLEN k a", "none", "", "="},
		row{k, "HKEYS k", "[$a $b $c]", "", "="}, row{"k=a:1", "hkeys k", "[$a]", "", "="}, row{"k=:1", "HKeys k", "[$]", "", "="}, row{"", "HKEYS k", "[]", "", "="}, row{odd, "HKEYS k", "[$ $\x00 $10 $9 $B $ab $abc $b $\u00e4 $\xff]", "", "="}, row{k, "HKEYS k a", "none", "", "="},
		row{k, "HVALS k", "[$1 $ $3]", "", "="}, row{"k=a:1", "hvals k", "[$1]", "", "="}, row{"k=a:", "HVals k", "[$]", "", "="}, row{"", "HVALS k", "[]", "", "="}, row{odd, "HVALS k", "[$3 $4 $8 $ $7 $2 $2 $1 $6 $5]", "", "="}, row{k, "HVALS k a", "none", "", "="},
		row{k, "HGETALL k", "[$a $1 $b $ $c $3]", "", "="}, row{"k=a:1", "hgetall k", "[$a $1]", "", "="}, row{"k=:", "HGetAll k", "[$ $]", "", "="}, row{"", "HGETALL k", "[]", "", "="}, row{odd, "HGETALL k", "[$ $3 $\x00 $4 $10 $8 $9 $ $B $7 $ab $2 $abc $2 $b $1 $\u00e4 $6 $\xff $5]", "", "="}, row{k, "HGETALL k a", "none", "", "="},
	)
	for _, kind := range []string{"k:str", "k:list", "k:set", "k:zset@11"} {
		for _, args := range []string{"HGET k a", "HMGET k a b", "HEXISTS k a", "HSTRLEN k a", "HLEN k", "HKEYS k", "HVALS k", "HGETALL k"} {
			check(t, api.RolePrimary, 10, row{kind, args, "-WRONG", "", "="})
		}
	}
}

// P16.4: HGET of a field tells what was set last, unless it was taken out; HLEN, HKEYS, HVALS and HGETALL tell as many.
func TestFields(t *testing.T) {
	t.Parallel()
	m := newMaker(3)
	for range 300 {
		x, want := newTrio(t, nil), map[string]string{}
		ask := func(args ...string) api.Reply {
			r, told := hashes.Do(x.s, api.Call{Role: api.RolePrimary, Args: args})
			if len(told) > 0 {
				t.Fatalf("%q tells %s", args, wroteTold(told))
			}
			return r
		}
		for range 25 {
			name, v := m.text(), m.text()
			switch m.IntN(5) {
			case 0, 1:
				other := m.text()
				x.do(t, api.Call{Role: api.RolePrimary, Args: []string{"hset", "k", other, "first", name, v, other, v}})
				want[name], want[other] = v, v
			case 2:
				x.do(t, api.Call{Role: api.RolePrimary, Args: []string{"hsetnx", "k", name, v}})
				if _, there := want[name]; !there {
					want[name] = v
				}
			case 3:
				x.do(t, api.Call{Role: api.RolePrimary, Args: []string{"hincrby", "k", name, "3"}})
				if was, there := want[name]; !there || numberForm.MatchString(was) {
					n, _ := strconv.Atoi(was)
					want[name] = strconv.Itoa(n + 3)
				}
			case 4:
				x.do(t, api.Call{Role: api.RolePrimary, Args: []string{"hdel", "k", name, name}})
				delete(want, name)
			}
			checkFields(t, want, ask)
		}
	}
}

// checkFields: what there is to ask of k tells just some fields.
func checkFields(t *testing.T, want map[string]string, ask func(args ...string) api.Reply) {
	t.Helper()
	var names, values, both []string
	for name := range want {
		names = append(names, name)
	}
	slices.Sort(names)
	for _, name := range names {
		values = append(values, want[name])
		both = append(both, name, want[name])
	}
	for args, texts := range map[string][]string{"hkeys": names, "hvals": values, "hgetall": both} {
		r := ask(args, "k")
		if len(r.L) != len(texts) || slices.ContainsFunc(r.L, func(one api.Reply) bool { return one.Kind != api.RBulk }) {
			t.Fatalf("%s = %s; want %q", args, show(r), texts)
		}
		for i, one := range r.L {
			if one.S != texts[i] {
				t.Fatalf("%s = %s; want %q", args, show(r), texts)
			}
		}
	}
	if r := ask("hlen", "k"); show(r) != ":"+strconv.Itoa(len(want)) {
		t.Fatalf("hlen = %s; want %d", show(r), len(want))
	}
	for _, name := range append(names, "none", "a") {
		one, size, is := "nil", ":0", ":0"
		if v, there := want[name]; there {
			one, size, is = "$"+v, ":"+strconv.Itoa(len(v)), ":1"
		}
		if show(ask("hget", "k", name)) != one || show(ask("hmget", "k", name, name)) != "["+one+" "+one+"]" || show(ask("hstrlen", "k", name)) != size || show(ask("hexists", "k", name)) != is {
			t.Fatalf("hget, hmget, hstrlen, hexists of %q = %s, %s, %s, %s; want %s", name, show(ask("hget", "k", name)), show(ask("hmget", "k", name, name)), show(ask("hstrlen", "k", name)), show(ask("hexists", "k", name)), one)
		}
	}
}
