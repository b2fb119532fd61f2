package strs_test

import (
	"math"
	"slices"
	"strconv"
	"strings"
	"testing"

	"millpond/api"
	"millpond/command"
	"millpond/space"
	"millpond/strs"
)

// The example

func TestTheExample(t *testing.T) {
	s := space.New()
	for _, x := range []struct{ args, reply, told string }{
		{"SET k 5 EX 2", "+OK", "SET k 5 PXAT 2010"},
		{"INCR k", ":6", "SET k 6 PXAT 2010"},
		{"APPEND k x", ":2", "APPEND k x"},
		{"INCR k", "-NUMBER", ""},
	} {
		r, got := strs.Do(s, api.Call{Role: api.RolePrimary, Now: 10, Args: words(x.args)})
		if show(r) != reply(x.reply, "") || !sameTold(got, told(x.told)) {
			t.Errorf("%s = %s, told %s", x.args, show(r), wroteTold(got))
		}
	}
	holds(t, "the example", s, entries("k=6x@2010"))
}

// Calls that are none of the package's

// none: a call on a space answers nothing, and changes nothing.
func none(t *testing.T, name string, s *space.Space, c api.Call) {
	t.Helper()
	before := s.Image()
	if r, told := strs.Do(s, c); show(r) != "none" || len(told) > 0 {
		t.Errorf("%s: %.50q = %s, told %s", name, c.Args, short(show(r)), wroteTold(told))
	}
	holds(t, name, s, before)
}

// some is a store with a key that is over, told as soon as it is looked at.
const some = "k=5 l:list o=v@3 s=v@99"

// each has for every command one way to call it that does something on some.
var each = []string{
	"get o", "set k w", "getset k w", "getdel k", "setnx n w", "setex k 5 w", "psetex k 5 w", "mget o k", "mset k w n w", "msetnx n w",
	"append k w", "strlen o", "getrange o 0 1", "setrange k 1 w", "incr k", "decr k", "incrby k 2", "decrby k 2",
}

func TestASpaceThatNoCallMade(t *testing.T) {
	made := load(t, entries(some))
	copied := *made
	for name, s := range map[string]*space.Space{"nil": nil, "the zero Space": {}, "a copy": &copied} {
		for _, args := range append(each, "set k w nx", "mset k v n", "set k v x", "incrby k x", "get l") {
			for _, role := range roles {
				none(t, name, s, api.Call{Role: role, Now: 9, Args: words(args)})
			}
		}
	}
	holds(t, "calls on its copy", made, entries(some))
}

func TestEachCommandIsTheTables(t *testing.T) {
	var names []string
	for _, args := range each {
		names = append(names, words(args)[0])
	}
	for _, s := range command.All() {
		if slices.Contains(names, s.Name) != (s.Group == api.GString) {
			t.Errorf("each has %s: %t", s.Name, s.Group != api.GString)
		}
	}
	if len(names) != 18 {
		t.Errorf("each has %d commands", len(names))
	}
}

func TestCallsThatAreNoneOfThePackages(t *testing.T) {
	s := load(t, entries(some))
	for _, role := range roles {
		c := api.Call{Role: role, Now: 9}
		for name, args := range map[string][]string{
			"no arguments": nil, "an empty list": {}, "an empty name": {""}, "an empty name and a key": {"", "o"}, "an unknown name": {"gett", "o"}, "a name and a blank": {"get ", "o"}, "a key for a name": {"o", "get"},
			"a foreign letter": {"ge\u0167", "o"}, "a letter that Go makes small": {"\u017fet", "o", "v"}, "a name of no group": {"info"}, "a long name": {over, "o"},
		} {
			c.Args = args
			none(t, name, s, c)
		}
		for _, spec := range command.All() {
			if spec.Group != api.GString {
				for _, name := range []string{spec.Name, strings.ToUpper(spec.Name)} {
					c.Args = append([]string{name}, slices.Repeat([]string{"o"}, max(spec.Arity, -spec.Arity)-1)...)
					none(t, "another group", s, c)
				}
			}
		}
	}
}

// As many arguments as a command has, by its row in the table, and no others.
func TestNumbersOfArguments(t *testing.T) {
	for name, arity := range arities {
		for n := range 12 {
			c := api.Call{Role: api.RolePrimary, Now: 9, Args: append([]string{name}, slices.Repeat([]string{"o"}, n)...)}
			s := load(t, entries(some))
			if n+1 == arity || arity < 0 && n+1 >= -arity {
				if r, _ := strs.Do(s, c); show(r) == "none" {
					t.Errorf("%s with %d arguments = none", name, n)
				}
			} else {
				none(t, "too few or too many", s, c)
			}
		}
	}
}

func TestAsManyArgumentsAsMayBe(t *testing.T) {
	keys := make([]string, 1024)
	for i := range keys {
		keys[i] = "key" + strconv.Itoa(i/2)
	}
	for _, name := range []string{"get", "set", "mget", "mset", "msetnx", "incr"} {
		for _, n := range []int{1024, 1025, 2000, 2001} {
			s := load(t, entries("key0=v@3"))
			c := api.Call{Role: api.RolePrimary, Now: 9, Args: append([]string{name}, slices.Repeat(keys, 2)[:n-1]...)}
			if n > 1024 || arities[name] > 0 {
				none(t, "too many", s, c)
				continue
			}
			newTrio(t, entries("key0=v@3")).do(t, c)
			if r, _ := strs.Do(s, c); show(r) == "none" {
				t.Errorf("%s of %d arguments = none", name, n)
			}
		}
	}
	c := api.Call{Role: api.RolePrimary, Args: append([]string{"mset"}, slices.Repeat([]string{"k", "v"}, 511)...)}
	if r, told := strs.Do(space.New(), c); show(r) != "+OK" || len(told) != 1 || len(told[0]) != 1023 {
		t.Errorf("MSET of 511 pairs = %s, told %d", show(r), len(told))
	}
	c.Args = append(c.Args, "k")
	if r, told := strs.Do(space.New(), c); show(r) != reply("-ARGS", "mset") || len(told) > 0 {
		t.Errorf("MSET of 1024 arguments = %s, told %d", show(r), len(told))
	}
}

func TestLongArguments(t *testing.T) {
	for _, args := range append(each, "set o v px 5", "set k v keepttl get xx") {
		l := words(args)
		for i := 1; i < len(l); i++ {
			long := slices.Clone(l)
			long[i] = over
			s := load(t, entries(some))
			none(t, "too long", s, api.Call{Role: api.RolePrimary, Now: 9, Args: long})
			long[i] = most
			newTrio(t, entries(some)).do(t, api.Call{Role: api.RolePrimary, Now: 9, Args: long})
			if r, _ := strs.Do(s, api.Call{Role: api.RolePrimary, Now: 9, Args: long}); show(r) == "none" {
				t.Errorf("%s with a long argument at %d = none", args, i)
			}
		}
	}
}

func TestTimesOfCalls(t *testing.T) {
	for _, args := range append(each, "mset k v n", "set k v x", "incrby k x", "get l") {
		for _, role := range roles {
			for _, now := range []int{math.MinInt, -1 << 40, -2, -1, 1<<40 + 1, 1<<40 + 2, math.MaxInt} {
				none(t, "a time that may not be", load(t, entries(some)), api.Call{Role: role, Now: now, Args: words(args)})
			}
			for _, now := range []int{0, 1, 1<<40 - 1, 1 << 40} {
				c := api.Call{Role: role, Now: now, Args: words(args)}
				newTrio(t, entries(some)).do(t, c)
				if r, _ := strs.Do(load(t, entries(some)), c); show(r) == "none" {
					t.Errorf("%s at %d = none", args, now)
				}
			}
		}
	}
}

// All commands

// states are what may stand at the key k ahead of a call at 10.
func states() []string {
	l := []string{"", "k=", "k=5"}
	for _, v := range []string{"k=", "k=v", "k=5", "k=-12", "k:list", "k:set", "k:zset", "k:hash"} {
		for _, end := range []string{"", "@0", "@9", "@10", "@11", "@2010"} {
			l = append(l, v+end)
		}
	}
	return l
}

// calls are calls of all commands, on the keys k and n.
var calls = []string{
	"get k", "getdel k", "getset k v", "getset k 5", "getset k ''", "setnx k v", "setnx k ''", "strlen k",
	"set k v", "set k 5", "set k ''", "set k v nx", "set k v xx", "set k v get", "set k v nx get", "set k v get xx", "set k v keepttl", "set k v keepttl get", "set k 5 keepttl xx", "set k v ex 2", "set k v px 1", "set k v pxat 10", "set k v exat 0", "set k v pxat 2010 get", "set k v nx px 5", "set k v xx ex 5 get",
	"set k v nx xx", "set k v ex", "set k v ex x", "set k v px 0", "set k v foo", "set k v keepttl ex 1",
	"setex k 2 v", "setex k 0 v", "setex k x v", "psetex k 2000 v", "psetex k -1 v", "psetex k '' v",
	"mget k", "mget k k", "mget n k m", "mset k v", "mset k v k 5", "mset k 5 n 1 k v", "mset k v n", "mset k v k 5 k ''", "msetnx k v", "msetnx n 1 k v", "msetnx k v n 1", "msetnx k 1 k 2", "msetnx k v n",
	"append k x", "append k ''", "getrange k 0 -1", "getrange k 1 1", "getrange k x 0", "getrange k 0 x", "setrange k 0 v", "setrange k 0 ''", "setrange k 3 ab", "setrange k -1 v", "setrange k x v", "setrange k -1 ''",
	"incr k", "decr k", "incrby k 5", "decrby k 5", "incrby k 0", "decrby k 0", "incrby k x", "decrby k ''", "incrby k 9223372036854775807", "decrby k -9223372036854775808", "decrby k 9223372036854775807", "incrby k -9223372036854775808",
}

// mixed is a text with its letters great and small by turns.
func mixed(s string) string {
	b := []byte(s)
	for i := range b {
		if b[i] >= 'a' && b[i] <= 'z' && i%2 == 0 {
			b[i] -= 'a' - 'A'
		}
	}
	return string(b)
}

// Each call by each role on each state of its key, its name and its options in any case, and what is told done on another space.
func TestEachCallByEachRoleOnEachState(t *testing.T) {
	for _, state := range states() {
		for _, n := range []string{"", " n=1", " n=1@10"} {
			for _, text := range calls {
				for _, role := range roles {
					args := words(text)
					newTrio(t, entries(state+n)).do(t, api.Call{Role: role, Now: 10, Draw: 7, Args: args})
					if role > 3 || role < 1 {
						continue
					}
					args[0] = strings.ToUpper(args[0])
					newTrio(t, entries(state+n)).do(t, api.Call{Role: role, Now: 10, Args: args})
					args[0] = mixed(args[0])
					for i := range args {
						if i > 2 && args[0] == "SeT" {
							args[i] = mixed(args[i])
						}
					}
					newTrio(t, entries(state+n)).do(t, api.Call{Role: role, Now: 10, Args: args})
				}
			}
		}
	}
}

// What is over by the call's time, for whom.
func TestHowAKeyIsLookedAt(t *testing.T) {
	for _, at := range []string{"@0", "@9", "@10"} {
		k := "k=5" + at
		check(t, api.RolePrimary, 10,
			row{k, "GET k", "nil", "DEL k", ""},
			row{k, "GETDEL k", "nil", "DEL k", ""},
			row{k, "STRLEN k", ":0", "DEL k", ""},
			row{k, "INCR k", ":1", "DEL k | SET k 1", "k=1"},
			row{k, "APPEND k x", ":1", "DEL k | APPEND k x", "k=x"},
			row{k, "SETNX k v", ":1", "DEL k | SET k v", "k=v"},
			row{k, "SET k v XX", "nil", "DEL k", ""},
			row{k, "SET k v KEEPTTL GET", "nil", "DEL k | SET k v", "k=v"},
			row{k, "SETEX k 1 v", "+OK", "DEL k | SET k v PXAT 1010", "k=v@1010"},
			row{k, "MSET k v", "+OK", "MSET k v", "k=v"}, // none is looked at
			row{k, "MSETNX k v", ":1", "DEL k | MSET k v", "k=v"},
			row{"k:list" + at, "GET k", "nil", "DEL k", ""},
			row{"k:list" + at, "SETRANGE k 1 v", ":2", "DEL k | SETRANGE k 1 v", "k=\x00v"},
		)
		for _, role := range []api.Role{api.RoleStream, 0, 4, -1, 257, math.MaxInt, math.MinInt} {
			check(t, role, 10,
				row{k, "GET k", "$5", "", "="},
				row{k, "INCR k", ":6", "SET k 6 PXAT " + at[1:], "k=6" + at},
				row{k, "APPEND k x", ":2", "APPEND k x", "k=5x" + at},
				row{k, "SETNX k v", ":0", "", "="},
				row{k, "MSETNX k v", ":0", "", "="},
				row{"k:list" + at, "GET k", "-WRONG", "", "="},
			)
		}
	}
	for _, role := range roles {
		check(t, role, 10, row{"k=5@11", "GET k", "$5", "", "="}, row{"k=5", "GET k", "$5", "", "="}, row{"k:set@11", "GET k", "-WRONG", "", "="})
	}
}

// A key that is over for a reader is not there, but stays; what is put there is new.
func TestAKeyThatIsOverForAReader(t *testing.T) {
	for _, k := range []string{"k=5@10", "k:hash@9", "k=@0"} {
		check(t, api.RoleReader, 10,
			row{k, "GET k", "nil", "", "="},
			row{k, "MGET k k", "[nil nil]", "", "="},
			row{k, "STRLEN k", ":0", "", "="},
			row{k, "GETRANGE k 0 -1", "$", "", "="},
			row{k, "GETDEL k", "nil", "", "="},
			row{k, "SET k v XX", "nil", "", "="},
			row{k, "SETRANGE k 0 ''", ":0", "", "="},
			row{k, "SET k v NX", "+OK", "SET k v", "k=v"},
			row{k, "SET k v KEEPTTL", "+OK", "SET k v", "k=v"},
			row{k, "SET k v GET PX 7", "nil", "SET k v PXAT 17", "k=v@17"},
			row{k, "GETSET k v", "nil", "SET k v", "k=v"},
			row{k, "SETNX k v", ":1", "SET k v", "k=v"},
			row{k, "PSETEX k 1 v", "+OK", "SET k v PXAT 11", "k=v@11"},
			row{k, "MSETNX n w k v", ":1", "MSET n w k v", "k=v n=w"},
			row{k, "APPEND k x", ":1", "APPEND k x", "k=x"},
			row{k, "APPEND k ''", ":0", "APPEND k ''", "k="},
			row{k, "SETRANGE k 2 x", ":3", "SETRANGE k 2 x", "k=\x00\x00x"},
			row{k, "INCRBY k 0", ":0", "SET k 0", "k=0"},
			row{k, "DECR k", ":-1", "SET k -1", "k=-1"},
		)
	}
}

// What looking tells comes first of all, beside errors, too, and of many keys in their order.
func TestWhatLookingTells(t *testing.T) {
	check(t, api.RolePrimary, 10,
		row{"a=v@9 b=v b2=v@3 c=v@10 d=v@11 e:list@4", "MGET c b a e d n", "[nil $v nil nil $v nil]", "DEL c | DEL a | DEL e", "b=v b2=v@3 d=v@11"},
		row{"a=v@9 c=v@9", "MGET c a c a", "[nil nil nil nil]", "DEL c | DEL a", ""},
		row{"a=v@9 b=v c=v@9", "MSETNX c 1 b 2 a 3", ":0", "DEL c | DEL a", "b=v"},
		row{"a=v@9 c=v@9", "MSETNX c 1 b 2 a 3 c 4", ":1", "DEL c | DEL a | MSET c 1 b 2 a 3 c 4", "a=3 b=2 c=4"},
		row{"k=v@9", "DECRBY k -9223372036854775808", "-OVER", "DEL k", ""},
		row{"k=v@9", "SETRANGE k 65536 v", "-LONG", "DEL k", ""},
	)
	// What an error ahead of looking leaves.
	for _, args := range []string{
		"SET k v FOO", "SET k v NX XX", "SET k v EX x", "SET k v EX 0", "SET k v PXAT 1099511627777", "SETEX k x v", "SETEX k 0 v", "PSETEX k -1 v", "MSET k v n", "MSETNX k v k",
		"GETRANGE k x 0", "GETRANGE k 0 x", "SETRANGE k x v", "SETRANGE k -1 v", "INCRBY k x", "DECRBY k 1.5",
	} {
		r, told := strs.Do(load(t, entries("k=v@9")), api.Call{Role: api.RolePrimary, Now: 10, Args: words(args)})
		if r.Kind != api.RError || len(told) > 0 {
			t.Errorf("%s = %s, told %s; want an error ahead of looking", args, show(r), wroteTold(told))
		}
		newTrio(t, entries("k=v@9")).do(t, api.Call{Role: api.RolePrimary, Now: 10, Args: words(args)})
	}
}

// The commands, one by one

func TestGet(t *testing.T) {
	check(t, api.RolePrimary, 10,
		row{"", "GET k", "nil", "", "="}, row{"k=", "GET k", "$", "", "="}, row{"k=v", "GET k", "$v", "", "="}, row{"k=v@11", "GET k", "$v", "", "="},
		row{"k:list", "GET k", "-WRONG", "", "="}, row{"k:set", "GET k", "-WRONG", "", "="}, row{"k:zset", "GET k", "-WRONG", "", "="}, row{"k:hash@11", "GET k", "-WRONG", "", "="},
		row{"k=v", "GET K", "nil", "", "="}, row{"k=v", "GET ''", "nil", "", "="}, row{"=v", "GET ''", "$v", "", "="},
	)
}

func TestGetSet(t *testing.T) {
	check(t, api.RolePrimary, 10,
		row{"", "GETSET k v", "nil", "SET k v", "k=v"}, row{"k=", "GETSET k v", "$", "SET k v", "k=v"}, row{"k=w", "GETSET k v", "$w", "SET k v", "k=v"},
		row{"k=w@11", "GETSET k v", "$w", "SET k v", "k=v"}, row{"k=w@10", "GETSET k v", "nil", "DEL k | SET k v", "k=v"},
		row{"k=v@11", "GETSET k v", "$v", "SET k v", "k=v"}, row{"k=v", "GETSET k v", "$v", "", "="}, row{"k=w", "GETSET k ''", "$w", "SET k ''", "k="},
		row{"k:zset", "GETSET k v", "-WRONG", "", "="}, row{"k:hash@11", "GETSET k v", "-WRONG", "", "="}, row{"k:list@10", "GETSET k v", "nil", "DEL k | SET k v", "k=v"},
	)
}

func TestGetDel(t *testing.T) {
	check(t, api.RolePrimary, 10,
		row{"", "GETDEL k", "nil", "", "="}, row{"k=", "GETDEL k", "$", "DEL k", ""}, row{"j=u k=w l=x", "GETDEL k", "$w", "DEL k", "j=u l=x"},
		row{"k=w@11", "GETDEL k", "$w", "DEL k", ""}, row{"k=w@10", "GETDEL k", "nil", "DEL k", ""},
		row{"k:set", "GETDEL k", "-WRONG", "", "="}, row{"k:list@11", "GETDEL k", "-WRONG", "", "="},
	)
}

func TestSetNX(t *testing.T) {
	check(t, api.RolePrimary, 10,
		row{"", "SETNX k v", ":1", "SET k v", "k=v"}, row{"", "SETNX k ''", ":1", "SET k ''", "k="}, row{"k=", "SETNX k v", ":0", "", "="}, row{"k=w@11", "SETNX k v", ":0", "", "="},
		row{"k=w@10", "SETNX k v", ":1", "DEL k | SET k v", "k=v"}, row{"k:set", "SETNX k v", ":0", "", "="}, row{"k:list@10", "SETNX k v", ":1", "DEL k | SET k v", "k=v"}, row{"j=w", "SETNX k v", ":1", "SET k v", "j=w k=v"},
	)
}

func TestMGet(t *testing.T) {
	check(t, api.RolePrimary, 10,
		row{"", "MGET k", "[nil]", "", "="}, row{"k=v", "MGET k", "[$v]", "", "="}, row{"k=v l=", "MGET l k l n k", "[$ $v $ nil $v]", "", "="},
		row{"a:list b:set c:zset d:hash e=v", "MGET a b c d e a", "[nil nil nil nil $v nil]", "", "="},
		row{"k=v@10 l=w@11", "MGET k l k", "[nil $w nil]", "DEL k", "l=w@11"},
	)
}

func TestMSet(t *testing.T) {
	check(t, api.RolePrimary, 10,
		row{"", "MSET k v", "+OK", "MSET k v", "k=v"}, row{"", "MSET k v l '' k w", "+OK", "MSET k v l '' k w", "k=w l="},
		row{"k=w@11 l:hash m=u", "MSET l 1 k 2", "+OK", "MSET l 1 k 2", "k=2 l=1 m=u"},
		row{"k=v l=w", "MSET l w k v", "+OK", "", "="}, row{"k=v l=w", "MSET l w k u", "+OK", "MSET l w k u", "k=u l=w"}, row{"k=v l=w", "MSET l u k v", "+OK", "MSET l u k v", "k=v l=u"},
		row{"k=v", "MSET k w k v", "+OK", "", "="}, row{"k=v", "MSET k v k w", "+OK", "MSET k v k w", "k=w"}, row{"k=v@11", "MSET k v", "+OK", "MSET k v", "k=v"}, row{"k=v@9", "MSET k v", "+OK", "MSET k v", "k=v"},
		row{"", "MSET k v l", "-ARGS", "", "="}, row{"k=v@10", "MSET k v l w k", "-ARGS", "", "="}, row{"", "mSeT k v l", "-ARGS", "", "="},
	)
}

func TestMSetNX(t *testing.T) {
	check(t, api.RolePrimary, 10,
		row{"", "MSETNX k v", ":1", "MSET k v", "k=v"}, row{"", "MSETNX k v l '' k w", ":1", "MSET k v l '' k w", "k=w l="}, row{"m=u", "MSETNX k v l w", ":1", "MSET k v l w", "k=v l=w m=u"},
		row{"a=1", "MSETNX a 2 b 2 c 2", ":0", "", "="}, row{"b=1@11", "MSETNX a 2 b 2 c 2", ":0", "", "="}, row{"c:list", "MSETNX a 2 b 2 c 2", ":0", "", "="}, row{"a=1 b=2", "MSETNX a 1 b 2", ":0", "", "="},
		row{"a=1@10 c:set@9", "MSETNX c 1 b 2 a 3", ":1", "DEL c | DEL a | MSET c 1 b 2 a 3", "a=3 b=2 c=1"},
		row{"", "MSETNX k v l", "-ARGS", "", "="}, row{"k=v@10", "MSETNX k v l w k", "-ARGS", "", "="}, row{"k=v", "MsetNX k v k", "-ARGS", "", "="},
	)
}

func TestAppend(t *testing.T) {
	check(t, api.RolePrimary, 10,
		row{"", "APPEND k v", ":1", "APPEND k v", "k=v"}, row{"", "APPEND k ''", ":0", "APPEND k ''", "k="}, row{"k=", "APPEND k ''", ":0", "", "="}, row{"k=v@11", "APPEND k ''", ":1", "", "="},
		row{"k=ab", "APPEND k cd", ":4", "APPEND k cd", "k=abcd"}, row{"k=ab@11", "APPEND k c", ":3", "APPEND k c", "k=abc@11"}, row{"k=ab@10", "APPEND k ''", ":0", "DEL k | APPEND k ''", "k="},
		row{"k:set", "APPEND k v", "-WRONG", "", "="}, row{"k:hash@11", "APPEND k ''", "-WRONG", "", "="},
	)
	for had := range 3 {
		before := []api.Entry{ends("k", str(most[had:]), 11)}
		for more := range 4 {
			c := api.Call{Role: api.RolePrimary, Now: 10, Args: []string{"APPEND", "k", most[:more]}}
			x := newTrio(t, before)
			x.do(t, c)
			r, _ := strs.Do(load(t, before), c)
			want := ":" + strconv.Itoa(65536-had+more)
			if more > had {
				want = reply("-LONG", "")
			}
			if show(r) != want {
				t.Errorf("APPEND of %d bytes to %d = %s; want %s", more, 65536-had, show(r), want)
			}
		}
	}
	newTrio(t, nil).do(t, api.Call{Role: api.RolePrimary, Args: []string{"APPEND", "k", most}})
	newTrio(t, entries("k=v")).do(t, api.Call{Role: api.RolePrimary, Args: []string{"APPEND", "k", most}})
	checkCall(t, api.Call{Role: api.RolePrimary, Args: []string{"APPEND", "k", most}}, entries("k:list"), reply("-WRONG", ""), nil, "=")
}

func TestStrlen(t *testing.T) {
	check(t, api.RolePrimary, 10, row{"", "STRLEN k", ":0", "", "="}, row{"k=", "STRLEN k", ":0", "", "="}, row{"k=abc@11", "STRLEN k", ":3", "", "="}, row{"k=\x00é", "STRLEN k", ":3", "", "="}, row{"k:zset", "STRLEN k", "-WRONG", "", "="}, row{"k=abc@10", "STRLEN k", ":0", "DEL k", ""})
	checkCall(t, api.Call{Args: []string{"STRLEN", "k"}}, []api.Entry{stay("k", str(most))}, ":65536", nil, "=")
}

func TestGetRange(t *testing.T) {
	check(t, api.RolePrimary, 10,
		row{"k=hello", "GETRANGE k 0 -1", "$hello", "", "="}, row{"k=hello@11", "GETRANGE k 1 3", "$ell", "", "="}, row{"k=hello", "GETRANGE k -3 -2", "$ll", "", "="}, row{"k=hello", "GETRANGE k 3 99", "$lo", "", "="}, row{"k=hello", "GETRANGE k -99 0", "$h", "", "="}, row{"k=hello", "GETRANGE k 3 2", "$", "", "="}, row{"k=hello", "GETRANGE k 5 9", "$", "", "="}, row{"k=hello", "GETRANGE k -9 -6", "$", "", "="},
		row{"", "GETRANGE k 0 -1", "$", "", "="}, row{"k=", "GETRANGE k 0 0", "$", "", "="}, row{"k=hello@10", "GETRANGE k 0 -1", "$", "DEL k", ""},
		row{"k:list", "GETRANGE k 0 0", "-WRONG", "", "="}, row{"k:list", "GETRANGE k x 0", "-NUMBER", "", "="}, row{"k:list", "GETRANGE k 0 x", "-NUMBER", "", "="}, row{"k=v", "GETRANGE k 01 0", "-NUMBER", "", "="}, row{"k=v", "GETRANGE k 0 ''", "-NUMBER", "", "="}, row{"k=v", "GETRANGE k 9223372036854775808 0", "-NUMBER", "", "="}, row{"k=v", "GETRANGE k -9223372036854775808 9223372036854775807", "$v", "", "="},
	)
}

// At every place near either end, and beyond both.
func TestGetRangeAtEveryPlace(t *testing.T) {
	var places []string
	for i := -9; i <= 9; i++ {
		places = append(places, strconv.Itoa(i))
	}
	places = append(places, "-9223372036854775808", "-9223372036854775807", "-4294967296", "-65536", "65536", "4294967296", "9223372036854775807")
	for n := range 7 {
		x := newTrio(t, []api.Entry{ends("k", str("abcdefg"[:n]), 11)})
		for _, a := range places {
			for _, b := range places {
				x.do(t, api.Call{Role: api.RolePrimary, Now: 10, Args: []string{"GETRANGE", "k", a, b}})
			}
		}
	}
	x := newTrio(t, []api.Entry{stay("k", str(most))})
	for _, a := range []string{"0", "65534", "65535", "65536", "-65537", "-65536", "-65535", "-1"} {
		for _, b := range []string{"0", "65534", "65535", "65536", "-65537", "-65536", "-65535", "-1"} {
			x.do(t, api.Call{Role: api.RoleReader, Now: 10, Args: []string{"GETRANGE", "k", a, b}})
		}
	}
}

func TestSetRange(t *testing.T) {
	check(t, api.RolePrimary, 10,
		row{"k=hello", "SETRANGE k 1 a", ":5", "SETRANGE k 1 a", "k=hallo"}, row{"k=hello@11", "SETRANGE k 3 ping", ":7", "SETRANGE k 3 ping", "k=helping@11"}, row{"k=hello", "SETRANGE k 5 s", ":6", "SETRANGE k 5 s", "k=hellos"},
		row{"k=ab", "SETRANGE k 4 c", ":5", "SETRANGE k 4 c", "k=ab\x00\x00c"}, row{"k=", "SETRANGE k 0 c", ":1", "SETRANGE k 0 c", "k=c"}, row{"", "SETRANGE k 0 c", ":1", "SETRANGE k 0 c", "k=c"}, row{"", "SETRANGE k 2 c", ":3", "SETRANGE k 2 c", "k=\x00\x00c"},
		row{"k=hello", "SETRANGE k 1 el", ":5", "", "="}, row{"k=hello@10", "SETRANGE k 1 el", ":3", "DEL k | SETRANGE k 1 el", "k=\x00el"},
		row{"k=hello", "SETRANGE k 1 ''", ":5", "", "="}, row{"k=hello", "SETRANGE k 65537 ''", ":5", "", "="}, row{"k=hello", "SETRANGE k 9223372036854775807 ''", ":5", "", "="}, row{"", "SETRANGE k 3 ''", ":0", "", "="}, row{"k=", "SETRANGE k 0 ''", ":0", "", "="}, row{"k=hello@10", "SETRANGE k 0 ''", ":0", "DEL k", ""},
		row{"k=hello", "SETRANGE k -1 v", "-OFFSET", "", "="}, row{"k=hello", "SETRANGE k -1 ''", "-OFFSET", "", "="}, row{"k:list", "SETRANGE k -9223372036854775808 v", "-OFFSET", "", "="}, row{"k=hello", "SETRANGE k x v", "-NUMBER", "", "="}, row{"k:list", "SETRANGE k -0 v", "-NUMBER", "", "="}, row{"k=hello", "SETRANGE k 9223372036854775808 v", "-NUMBER", "", "="},
		row{"k:list", "SETRANGE k 0 v", "-WRONG", "", "="}, row{"k:list", "SETRANGE k 0 ''", "-WRONG", "", "="}, row{"k:list", "SETRANGE k 65536 v", "-WRONG", "", "="},
		row{"k=hello", "SETRANGE k 65536 v", "-LONG", "", "="}, row{"", "SETRANGE k 65535 vv", "-LONG", "", "="}, row{"", "SETRANGE k 9223372036854775807 v", "-LONG", "", "="}, row{"", "SETRANGE k 4294967296 v", "-LONG", "", "="}, row{"k=v", "SETRANGE k 9223372036854775806 vv", "-LONG", "", "="},
	)
}

func TestSetRangeAtEveryPlace(t *testing.T) {
	for n := range 6 {
		for at := range 9 {
			for _, part := range []string{"", "X", "XY", "XYZ", "WXYZ", "abc", "bc", "c"} {
				for _, role := range roles[:3] {
					newTrio(t, []api.Entry{ends("k", str("abcdef"[:n]), 11)}).do(t, api.Call{Role: role, Now: 10, Args: []string{"setrange", "k", strconv.Itoa(at), part}})
				}
			}
		}
	}
	for _, at := range []int{0, 1, 65533, 65534, 65535, 65536, 65537} {
		for _, part := range []string{"", "a", "ab", "abc", most[2:], most[1:], most} {
			for _, had := range []string{"", "v", most[1:], most} {
				newTrio(t, []api.Entry{stay("k", str(had))}).do(t, api.Call{Role: api.RolePrimary, Args: []string{"setrange", "k", strconv.Itoa(at), part}})
			}
		}
	}
}
