package keys_test

import (
	"math"
	"slices"
	"strconv"
	"strings"
	"testing"

	"millpond/api"
	"millpond/keys"
)

func TestKeysOfPatterns(t *testing.T) {
	const some = "hello=1 hallo:list hbllo:set hllo:zset heello:hash Hello=2 h*llo=3 [=4 a\\=5 a=6 b=7@11 gone=8@10"
	for _, x := range []struct{ pattern, keys string }{
		{"*", "H,a,a\\,b,h*,hall,hb,heel,hel,hl"},
		{"hello", "hello"}, {"HELLO", ""}, {"hell", ""}, {"hello?", ""}, {"gone", ""}, {"g*", ""}, {"''", ""},
		{"h?llo", "h*llo hallo hbllo hello"}, {"h*llo", "h*llo hallo hbllo heello hello hllo"}, {"h**o", "h*llo hallo hbllo heello hello hllo"}, {"*l*", "Hello h*llo hallo hbllo heello hello hllo"}, {"?", "[ a b"}, {"??", "a\\"}, {"", ""},
		{"h[ab]llo", "hallo hbllo"}, {"h[a-b]llo", "hallo hbllo"}, {"h[b-a]llo", "hallo hbllo"}, {"h[^e]llo", "h*llo hallo hbllo"}, {"h[^a-z]llo", "h*llo"}, {"[hH]ello", "Hello hello"}, {"h[]llo", ""}, {"[", ""}, {"[^", "[ a b"}, {"[^]", "[ a b"}, {"[ab", "a b"},
		{"h\\*llo", "h*llo"}, {"h[\\*]llo", "h*llo"}, {"\\[", "["}, {"a\\", "a\\"}, {"a\\\\", "a\\"}, {"\\h\\e\\l\\l\\o", "hello"}, {"x*", ""}, {"*x", ""},
	} {
		if x.pattern == "*" {
			x.keys = "Hello [ a a\\ b h*llo hallo hbllo heello hello hllo"
		}
		want := "[]"
		if x.keys != "" {
			want = "[$" + strings.Join(strings.Fields(x.keys), " $") + "]"
		}
		for _, role := range []api.Role{api.RolePrimary, api.RoleReader} {
			for _, name := range []string{"KEYS", "keys", "kEyS"} {
				checkCall(t, api.Call{Role: role, Now: 10, Args: []string{name, x.pattern}}, entries(some), want, nil, "=")
			}
		}
	}
	for _, role := range []api.Role{api.RoleStream, 0, 9} {
		check(t, role, 10, row{some, "KEYS g*", "[$gone]", "", "="}, row{some, "KEYS ?[o]*", "[$gone]", "", "="})
	}
	check(t, api.RolePrimary, 10, row{"", "KEYS *", "[]", "", "="}, row{"", "KEYS ''", "[]", "", "="}, row{"=v a=v", "KEYS ''", "[$]", "", "="}, row{"=v a=v", "KEYS *", "[$ $a]", "", "="}, row{"a=v@10 b:list@9", "KEYS *", "[]", "", "="}, row{"a=v", "KEYS", "none", "", "="}, row{"a=v", "KEYS * *", "none", "", "="})
}

// Keys rise by their bytes.
func TestKeysRise(t *testing.T) {
	l := []string{"", "\x00", "\x00\x00", "\x01", "A", "Z", "_", "a", "a\x00", "aa", "ab", "abc", "b", "z", "\x7f", "\x80", "\u00e4", "\xfe", "\xff", "\xff\x00", "\xff\xff"}
	var before []api.Entry
	for i := range l {
		before = append(before, stay(l[i*8%len(l)], str("v")))
	}
	want := "[$" + strings.Join(l, " $") + "]"
	for _, role := range roles {
		checkCall(t, api.Call{Role: role, Now: 10, Args: []string{"KEYS", "*"}}, before, want, nil, "=")
		checkCall(t, api.Call{Role: role, Now: 10, Args: []string{"KEYS", "\x00*"}}, before, "[$\x00 $\x00\x00]", nil, "=")
		checkCall(t, api.Call{Role: role, Now: 10, Args: []string{"KEYS", "[\x80-\xff]"}}, before, "[$\x80 $\xfe $\xff]", nil, "=")
		checkCall(t, api.Call{Role: role, Now: 10, Args: []string{"KEYS", "a?"}}, before, "[$a\x00 $aa $ab]", nil, "=")
	}
}

// draws are draws about a number of keys and at both ends of 64 bits.
func draws(n int) []uint64 {
	l := []uint64{math.MaxUint64, math.MaxUint64 - 1, math.MaxInt64, math.MaxInt64 + 1, 1 << 32}
	for i := range 2*n + 3 {
		l = append(l, uint64(i))
	}
	return l
}

func TestRandomKey(t *testing.T) {
	for _, before := range []string{"", "k=v", "k=v@10", "a=1 b:list c:set", "a=1 b:list@10 c:set@11", "a=1@9 b:list@10 c:set", "a=1@9 b:list@10 c:set@0", "a=1 b=2@9 c=3@9 d=4@9 e=5 f=6@10 g=7@10", "a=1@9 b=2@9 c=3@9 d=4@9 e=5@9 f=6@10 g=7@10", "=v \xff=v a:hash@3"} {
		for _, role := range roles {
			for _, draw := range draws(len(entries(before))) {
				newTrio(t, entries(before)).do(t, api.Call{Role: role, Now: 10, Draw: draw, Args: []string{"RANDOMKEY"}})
			}
		}
	}
	const some = "a=1 b:list c:set"
	for _, role := range roles {
		for draw, want := range map[uint64]string{0: "$a", 1: "$b", 2: "$c", 3: "$a", 4: "$b", math.MaxUint64: "$a"} { // the greatest draw is three times something
			checkCall(t, api.Call{Role: role, Now: 10, Draw: draw, Args: []string{"randomKEY"}}, entries(some), want, nil, "=")
		}
		check(t, role, 10, row{"", "RANDOMKEY", "nil", "", "="}, row{some, "RANDOMKEY a", "none", "", "="})
	}
	// Of three, all over: by the draw 1 the second goes; the next draw is odd and even by turns.
	second := uint64(6364136223846793005)*1 + 1442695040888963407
	rest := []string{"a", "c"}
	first := rest[second%2]
	wantTold := "DEL b | DEL " + first + " | DEL " + rest[1-second%2]
	const overs = "a=1@9 b=2@10 c=3@0"
	checkCall(t, api.Call{Role: api.RolePrimary, Now: 10, Draw: 1, Args: []string{"RANDOMKEY"}}, entries(overs), "nil", told(wantTold), "")
	checkCall(t, api.Call{Role: api.RoleReader, Now: 10, Draw: 1, Args: []string{"RANDOMKEY"}}, entries(overs), "nil", nil, "=")
	checkCall(t, api.Call{Role: api.RoleStream, Now: 10, Draw: 1, Args: []string{"RANDOMKEY"}}, entries(overs), "$b", nil, "=")
	checkCall(t, api.Call{Role: api.RoleReader, Now: 10, Draw: 1, Args: []string{"RANDOMKEY"}}, entries("a=1 b=2@10 c=3@10"), "$a", nil, "=")
	checkCall(t, api.Call{Role: api.RolePrimary, Now: 10, Draw: 1, Args: []string{"RANDOMKEY"}}, entries("a=1 b=2@10"), "$a", told("DEL b"), "a=1")
}

func TestDBSizeAndFlushAll(t *testing.T) {
	for _, role := range roles {
		check(t, role, 10,
			row{"", "DBSIZE", ":0", "", "="}, row{"k=v", "dbsize", ":1", "", "="}, row{"k=v n:list@11 o:set@10 p=x@0", "DbSize", ":4", "", "="}, row{"o:set@10 p=x@0", "DBSIZE", ":2", "", "="}, row{"k=v", "DBSIZE k", "none", "", "="},
			row{"", "FLUSHALL", "+OK", "", "="}, row{"k=v", "flushall", "+OK", "FLUSHALL", ""}, row{"k=v n:list@11 o:set@10 p=x@0", "FlushAll", "+OK", "FLUSHALL", ""}, row{"o:set@10 p=x@0", "FLUSHALL", "+OK", "FLUSHALL", ""}, row{"k=v", "FLUSHALL k", "none", "", "="},
		)
	}
	s := load(t, entries("k=v n=w@3"))
	for i, x := range []struct{ args, reply, told string }{
		{"FLUSHALL", "+OK", "FLUSHALL"}, {"FLUSHALL", "+OK", ""}, {"DBSIZE", ":0", ""}, {"KEYS *", "[]", ""}, {"RANDOMKEY", "nil", ""}, {"EXISTS k n", ":0", ""}, {"RENAME k n", reply("-NOKEY", ""), ""},
	} {
		if r, got := keys.Do(s, api.Call{Role: api.RolePrimary, Now: 5, Args: words(x.args)}); show(r) != x.reply || !sameTold(got, told(x.told)) || s.Len() != 0 {
			t.Errorf("%d: %s = %s, told %s", i, x.args, show(r), wroteTold(got))
		}
	}
	if s.Put("k", str("v"), api.Never) != api.OK {
		t.Error("nothing can be put behind FLUSHALL")
	}
	holds(t, "FLUSHALL and a Put", s, entries("k=v"))
}

// KEYS of a pattern tells just what the model's matcher says, whatever stands in the pattern.
func TestKeysOfAnyPattern(t *testing.T) {
	m := newMaker(10)
	var l []api.Entry
	for _, key := range []string{"", "a", "b", "ab", "ba", "abc", "*", "?", "[", "]", "^", "-", "\\", "a-b", "[a]", "^a", "\x00", "\xff"} {
		l = append(l, stay(key, str("v")))
	}
	trio := newTrio(t, l)
	for range 30000 {
		var p strings.Builder
		for range m.IntN(7) {
			p.WriteString(m.of("a", "b", "c", "*", "?", "[", "]", "^", "-", "\\", "[^", "a-b", "\xff"))
		}
		trio.do(t, api.Call{Role: roles[m.IntN(len(roles))], Args: []string{"keys", p.String()}})
	}
}

// A store of as many keys as may be: all are told, rising, and soon.
func TestKeysOfAFullStore(t *testing.T) {
	t.Parallel()
	var l []api.Entry
	for i := range api.MaxKeys {
		l = append(l, stay(strconv.Itoa(1000000+i), str("v")))
	}
	s := load(t, l)
	for pattern, want := range map[string]int{"*": 65536, "1*": 65536, "*[02468]": 32768, "10000??": 100, "x*": 0, strings.Repeat("*?", 7): 65536, strings.Repeat("*?", 8): 0, strings.Repeat("*", 65536): 65536} {
		r, told := keys.Do(s, api.Call{Role: api.RolePrimary, Args: []string{"KEYS", pattern}})
		if len(r.L) != want || len(told) > 0 || !slices.IsSortedFunc(r.L, func(a, b api.Reply) int { return strings.Compare(a.S, b.S) }) {
			t.Errorf("KEYS %s tells %d; want %d", short(pattern), len(r.L), want)
		}
	}
	for args, want := range map[string]string{"DBSIZE": ":65536", "RANDOMKEY": "$1012345", "EXISTS 1000000 1065535 1065536": ":2"} {
		if r, _ := keys.Do(s, api.Call{Role: api.RolePrimary, Draw: 65536*5 + 12345, Args: words(args)}); show(r) != want {
			t.Errorf("%s = %s; want %s", args, show(r), want)
		}
	}
}
