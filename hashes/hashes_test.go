package hashes_test

import (
	"math"
	"slices"
	"strconv"
	"strings"
	"testing"

	"millpond/api"
	"millpond/command"
	"millpond/hashes"
	"millpond/space"
)

// The example

func TestTheExample(t *testing.T) {
	s := space.New()
	for _, x := range []struct{ args, reply, told, after string }{
		{"HSET h b 1 a 2 b 3", ":2", "HSET h a 2 b 3", "h=a:2,b:3"},
		{"HINCRBY h b 4", ":7", "HSET h b 7", "h=a:2,b:7"},
		{"HDEL h a b", ":2", "HDEL h a b", ""},
	} {
		r, got := hashes.Do(s, api.Call{Role: api.RolePrimary, Now: 10, Args: words(x.args)})
		if show(r) != x.reply || !sameTold(got, told(x.told)) {
			t.Errorf("%s = %s, told %s", x.args, show(r), wroteTold(got))
		}
		holds(t, x.args, s, entries(x.after))
	}
}

// Calls that are none of the package's

// none: a call on a space answers nothing, and changes nothing.
func none(t *testing.T, name string, s *space.Space, c api.Call) {
	t.Helper()
	before := s.Image()
	if r, told := hashes.Do(s, c); show(r) != "none" || told != nil {
		t.Errorf("%s: %.50q = %s, told %s", name, c.Args, short(show(r)), wroteTold(told))
	}
	holds(t, name, s, before)
}

// some is a store with a key that is over, told as soon as it is looked at.
const some = "k=a:1,b:x l:list o=v:5@3 s=v:7@99"

// each has for every command one way to call it that does something on some.
var each = []string{
	"hset k w 3", "hsetnx k w 3", "hget o v", "hmget o v w", "hdel k a", "hexists o v", "hlen o", "hkeys o", "hvals o", "hgetall o", "hincrby k a 5", "hstrlen o v",
}

// wrongs are calls that answer an error, or have more than one form.
var wrongs = []string{
	"hset k a 1 b", "hset k w 1 w 2 a 1", "hset l a 1", "hset o v 5", "hsetnx k a 2", "hsetnx l a 2", "hget l a", "hmget k a", "hmget l a", "hdel l a", "hdel k x b a", "hlen l", "hgetall l",
	"hincrby k a x", "hincrby k b 1", "hincrby k a 9223372036854775807", "hincrby k w 1", "hincrby l a 1", "hincrby o v 0",
}

func TestASpaceThatNoCallMade(t *testing.T) {
	made := load(t, entries(some))
	copied := *made
	for name, s := range map[string]*space.Space{"nil": nil, "the zero Space": {}, "a copy": &copied} {
		for _, args := range append(wrongs, each...) {
			for _, role := range roles {
				none(t, name, s, api.Call{Role: role, Now: 9, Args: words(args)})
			}
		}
	}
	holds(t, "calls on its copy", made, entries(some))
}

func TestEachCommandIsTheTables(t *testing.T) {
	var names []string
	for _, args := range each {
		names = append(names, words(args)[0])
	}
	for _, s := range command.All() {
		if slices.Contains(names, s.Name) != (s.Group == api.GHash) {
			t.Errorf("each has %s: %t", s.Name, s.Group != api.GHash)
		}
	}
	if len(names) != 12 {
		t.Errorf("each has %d commands", len(names))
	}
}

func TestCallsThatAreNoneOfThePackages(t *testing.T) {
	s := load(t, entries(some))
	for _, role := range roles {
		c := api.Call{Role: role, Now: 9}
		for name, args := range map[string][]string{
			"no arguments": nil, "an empty list": {}, "an empty name": {""}, "an empty name and a key": {"", "o"}, "an unknown name": {"hlens", "o"}, "a name and a blank": {"hlen ", "o"}, "a key for a name": {"o", "hlen"},
			"a foreign letter": {"\u0127len", "o"}, "a letter that Go makes small": {"h\u212aeys", "o"}, "a name of no group": {"hrandfield", "o"}, "a long name": {over, "o"},
		} {
			c.Args = args
			none(t, name, s, c)
		}
		for _, spec := range command.All() {
			if spec.Group != api.GHash {
				for _, name := range []string{spec.Name, strings.ToUpper(spec.Name)} {
					c.Args = append([]string{name}, slices.Repeat([]string{"o"}, max(spec.Arity, -spec.Arity)-1)...)
					none(t, "another group", s, c)
				}
			}
		}
	}
}

// As many arguments as a command has, by its row in the table, and no others.
func TestNumbersOfArguments(t *testing.T) {
	for name, arity := range arities {
		for n := range 12 {
			c := api.Call{Role: api.RolePrimary, Now: 9, Args: append([]string{name}, slices.Repeat([]string{"o"}, n)...)}
			s := load(t, entries(some))
			if n+1 == arity || arity < 0 && n+1 >= -arity {
				if r, _ := hashes.Do(s, c); show(r) == "none" {
					t.Errorf("%s with %d arguments = none", name, n)
				}
			} else {
				none(t, "too few or too many", s, c)
			}
		}
	}
}

func TestAsManyArgumentsAsMayBe(t *testing.T) {
	texts := make([]string, 2000)
	for i := range texts {
		texts[i] = strconv.Itoa(i)
	}
	const before = "0=1:2,3:7,4:x 1=v:1@3"
	for name := range arities {
		for _, n := range []int{1023, 1024, 1025, 2000} {
			s := load(t, entries(before))
			c := api.Call{Role: api.RolePrimary, Now: 9, Args: append([]string{name}, texts[:n-1]...)}
			if n > 1024 || arities[name] > 0 {
				none(t, "too many", s, c)
				continue
			}
			newTrio(t, entries(before)).do(t, c)
			newTrio(t, entries("0=1:0@10")).do(t, c)
			if r, _ := hashes.Do(s, c); show(r) == "none" {
				t.Errorf("%s of %d arguments = none", name, n)
			}
		}
	}
	for name, want := range map[string]string{"hset": "-PAIRS", "hdel": ":3", "hmget": "array"} {
		c := api.Call{Role: api.RolePrimary, Now: 9, Args: append([]string{name}, texts[:1022]...)}
		if r, _ := hashes.Do(load(t, entries(before)), c); want == "array" && len(r.L) != 1021 || want != "array" && show(r) != reply(want) {
			t.Errorf("%s of 1023 arguments = %s; want %s", name, short(show(r)), want)
		}
	}
}

func TestLongArguments(t *testing.T) {
	for _, args := range append(wrongs, each...) {
		l := words(args)
		for i := 1; i < len(l); i++ {
			long := slices.Clone(l)
			long[i] = over
			s := load(t, entries(some))
			none(t, "too long", s, api.Call{Role: api.RolePrimary, Now: 9, Args: long})
			long[i] = most
			newTrio(t, entries(some)).do(t, api.Call{Role: api.RolePrimary, Now: 9, Args: long})
			if r, _ := hashes.Do(s, api.Call{Role: api.RolePrimary, Now: 9, Args: long}); show(r) == "none" {
				t.Errorf("%s with a long argument at %d = none", args, i)
			}
		}
	}
}

func TestTimesOfCalls(t *testing.T) {
	for _, args := range append(wrongs, each...) {
		for _, role := range roles {
			for _, now := range []int{math.MinInt, -1 << 40, -2, -1, 1<<40 + 1, 1<<40 + 2, math.MaxInt} {
				none(t, "a time that may not be", load(t, entries(some)), api.Call{Role: role, Now: now, Args: words(args)})
			}
			for _, now := range []int{0, 1, 1<<40 - 1, 1 << 40} {
				c := api.Call{Role: role, Now: now, Args: words(args)}
				newTrio(t, entries(some)).do(t, c)
				if r, _ := hashes.Do(load(t, entries(some)), c); show(r) == "none" {
					t.Errorf("%s at %d = none", args, now)
				}
			}
		}
	}
}

// All commands

// states are what may stand at the key k ahead of a call at 10.
func states() []string {
	l := []string{""}
	for _, v := range []string{"k=a:1", "k=a:1,b:2", "k=b:x,:5,a:,c:7", "k=p:9223372036854775807,a:-9223372036854775808", "k=a:1,ab:1,b:1,ba:1,A:1", "k:str", "k:list", "k:set", "k:zset"} {
		for _, end := range []string{"", "@0", "@9", "@10", "@11"} {
			l = append(l, v+end)
		}
	}
	return l
}

// calls are calls of all commands, on the key k, and on m, which is never there.
var calls = []string{
	"hset k a 1", "hset k a 2", "hset k a ''", "hset k '' 5", "hset k '' ''", "hset k x 1", "hset k a 1 b 2", "hset k b 2 a 1", "hset k x 1 x 2", "hset k x 1 a 2 x 3", "hset k a 2 a 1", "hset k a 1 a 2", "hset k c 1 ba 2 A 3 ab 4", "hset k a 1 b", "hset k a 1 b 2 c", "hset k a 2 b 3 a 1 b 2 x 1", "hset m a 1",
	"hsetnx k a 1", "hsetnx k a 2", "hsetnx k x 1", "hsetnx k '' 1", "hsetnx k A ''", "hsetnx m a 1",
	"hget k a", "hget k ''", "hget k x", "hget k A", "hmget k a", "hmget k a x a ''", "hmget k c b a", "hmget k x y",
	"hexists k a", "hexists k ''", "hexists k x", "hlen k", "hkeys k", "hvals k", "hgetall k", "hstrlen k a", "hstrlen k ''", "hstrlen k p", "hstrlen k x",
	"hdel k a", "hdel k b a b", "hdel k x", "hdel k x '' y x", "hdel k c '' b a", "hdel k p a", "hdel k a ab b ba A", "hdel m a",
	"hincrby k a 1", "hincrby k a 0", "hincrby k b -2", "hincrby k x 0", "hincrby k '' -5", "hincrby k p 1", "hincrby k a -1", "hincrby k a -9223372036854775808", "hincrby k p 9223372036854775807", "hincrby k a x", "hincrby k b x", "hincrby k a +1", "hincrby k a ''", "hincrby k x 9223372036854775808", "hincrby m a 5",
}

// mixed is a text with its letters great and small by turns.
func mixed(s string) string {
	b := []byte(s)
	for i := range b {
		if b[i] >= 'a' && b[i] <= 'z' && i%2 == 0 {
			b[i] -= 'a' - 'A'
		}
	}
	return string(b)
}

// inCase is a call with its name in another case.
func inCase(args []string, other func(string) string) []string {
	l := slices.Clone(args)
	l[0] = other(l[0])
	return l
}

// Each call by each role on each state of its key, its name in any case, and what is told done on another space.
func TestEachCallByEachRoleOnEachState(t *testing.T) {
	t.Parallel()
	for _, state := range states() {
		for _, n := range []string{"", " n=q:1@10"} {
			for _, text := range calls {
				for _, role := range roles {
					args := words(text)
					newTrio(t, entries(state+n)).do(t, api.Call{Role: role, Now: 10, Draw: 7, Args: args})
					if role > 3 || role < 1 {
						continue
					}
					newTrio(t, entries(state+n)).do(t, api.Call{Role: role, Now: 10, Args: inCase(args, strings.ToUpper)})
					newTrio(t, entries(state+n)).do(t, api.Call{Role: role, Now: 10, Args: inCase(args, mixed)})
				}
			}
		}
	}
}

// What is over by the call's time, for whom.
func TestHowAKeyIsLookedAt(t *testing.T) {
	for _, at := range []string{"@0", "@9", "@10"} {
		k := "k=a:1,b:2" + at
		check(t, api.RolePrimary, 10,
			row{k, "HSET k a 1", ":1", "DEL k | HSET k a 1", "k=a:1"},
			row{k, "HSET k b 5 a 1", ":2", "DEL k | HSET k a 1 b 5", "k=a:1,b:5"},
			row{k, "HSETNX k a 5", ":1", "DEL k | HSET k a 5", "k=a:5"},
			row{k, "HGET k a", "nil", "DEL k", ""},
			row{k, "HMGET k a b", "[nil nil]", "DEL k", ""},
			row{k, "HEXISTS k a", ":0", "DEL k", ""},
			row{k, "HSTRLEN k a", ":0", "DEL k", ""},
			row{k, "HLEN k", ":0", "DEL k", ""},
			row{k, "HKEYS k", "[]", "DEL k", ""},
			row{k, "HVALS k", "[]", "DEL k", ""},
			row{k, "HGETALL k", "[]", "DEL k", ""},
			row{k, "HDEL k a b", ":0", "DEL k", ""},
			row{k, "HINCRBY k a 5", ":5", "DEL k | HSET k a 5", "k=a:5"},
			row{k, "HINCRBY k a 0", ":0", "DEL k | HSET k a 0", "k=a:0"},
			row{"k:set" + at, "HLEN k", ":0", "DEL k", ""},
			row{"k:set" + at, "HSET k y 2 x 1", ":2", "DEL k | HSET k x 1 y 2", "k=x:1,y:2"},
			row{"k:str" + at, "HINCRBY k a 1", ":1", "DEL k | HSET k a 1", "k=a:1"},
		)
		for _, role := range []api.Role{api.RoleStream, 0, 4, -1, 257, math.MaxInt, math.MinInt} {
			check(t, role, 10,
				row{k, "HLEN k", ":2", "", "="},
				row{k, "HGETALL k", "[$a $1 $b $2]", "", "="},
				row{k, "HSET k c 3 a 5 b 2", ":1", "HSET k a 5 c 3", "k=a:5,b:2,c:3" + at},
				row{k, "HSETNX k a 5", ":0", "", "="},
				row{k, "HSETNX k c 5", ":1", "HSET k c 5", "k=a:1,b:2,c:5" + at},
				row{k, "HINCRBY k a 5", ":6", "HSET k a 6", "k=a:6,b:2" + at},
				row{k, "HINCRBY k a 0", ":1", "", "="},
				row{k, "HDEL k a", ":1", "HDEL k a", "k=b:2" + at},
				row{k, "HDEL k b a", ":2", "HDEL k a b", ""},
				row{"k:set" + at, "HLEN k", "-WRONG", "", "="},
			)
		}
	}
	for _, role := range roles {
		check(t, role, 10, row{"k=a:1@11", "HLEN k", ":1", "", "="}, row{"k=a:1", "HLEN k", ":1", "", "="}, row{"k:set@11", "HLEN k", "-WRONG", "", "="})
	}
}

// A key that is over for a reader is not there, but stays; what is put there is new.
func TestAKeyThatIsOverForAReader(t *testing.T) {
	for _, k := range []string{"k=a:1,b:2@10", "k:list@9", "k=x:5@0"} {
		check(t, api.RoleReader, 10,
			row{k, "HGET k a", "nil", "", "="},
			row{k, "HMGET k a x", "[nil nil]", "", "="},
			row{k, "HEXISTS k a", ":0", "", "="},
			row{k, "HSTRLEN k x", ":0", "", "="},
			row{k, "HLEN k", ":0", "", "="},
			row{k, "HKEYS k", "[]", "", "="},
			row{k, "HVALS k", "[]", "", "="},
			row{k, "HGETALL k", "[]", "", "="},
			row{k, "HDEL k a x", ":0", "", "="},
			row{k, "HINCRBY k a x", "-NUMBER", "", "="},
			row{k, "HSET k a 1 x", "-PAIRS", "", "="},
			row{k, "HSET k y 2 x 1", ":2", "HSET k x 1 y 2", "k=x:1,y:2"},
			row{k, "HSET k a 1 b 2", ":2", "HSET k a 1 b 2", "k=a:1,b:2"},
			row{k, "HSET k x 5", ":1", "HSET k x 5", "k=x:5"},
			row{k, "HSETNX k a 1", ":1", "HSET k a 1", "k=a:1"},
			row{k, "HINCRBY k a 5", ":5", "HSET k a 5", "k=a:5"},
			row{k, "HINCRBY k x 0", ":0", "HSET k x 0", "k=x:0"},
		)
	}
}

// What an error ahead of looking leaves, and what is told beside one behind it.
func TestWhatErrorsLeave(t *testing.T) {
	for _, args := range []string{"HSET k a 1 b", "HSET k a 1 a", "HSET k a 1 b 2 c", "HINCRBY k v x", "HINCRBY k v ''", "HINCRBY k v 9223372036854775808"} {
		for _, k := range []string{"k=v:1@9", "k=v:x@10", "k:list"} { // ahead of WRONG, too
			c := api.Call{Role: api.RolePrimary, Now: 10, Args: words(args)}
			r, told := hashes.Do(load(t, entries(k)), c)
			if r.Kind != api.RError || r.S == errors["WRONG"] || len(told) > 0 {
				t.Errorf("%s = %s, told %s; want an error ahead of looking", args, show(r), wroteTold(told))
			}
			newTrio(t, entries(k)).do(t, c)
		}
	}
	check(t, api.RolePrimary, 10,
		row{"k:set", "HINCRBY k v 9223372036854775807", "-WRONG", "", "="}, row{"k=v:1@11", "HINCRBY k v 9223372036854775807", "-OVER", "", "="}, row{"k=v:x@11", "HINCRBY k v 9223372036854775807", "-HASH", "", "="},
		row{"k=v:1@9", "HINCRBY k v 9223372036854775807", ":9223372036854775807", "DEL k | HSET k v 9223372036854775807", "k=v:9223372036854775807"}, row{"k=v:x@9", "HINCRBY k v 1", ":1", "DEL k | HSET k v 1", "k=v:1"},
	)
}
