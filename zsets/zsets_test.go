package zsets_test

import (
	"math"
	"slices"
	"strconv"
	"strings"
	"testing"

	"millpond/api"
	"millpond/command"
	"millpond/space"
	"millpond/zsets"
)

// The example

func TestTheExample(t *testing.T) {
	s := space.New()
	for _, x := range []struct{ args, reply, told, after string }{
		{"ZADD k 1 a 2 b", ":2", "ZADD k 1 a 2 b", "k=a:1,b:2"},
		{"ZADD k GT CH 0 a 5 b 7 c", ":2", "ZADD k 5 b 7 c", "k=a:1,b:5,c:7"},
		{"ZADD k INCR 1 a", "$2", "ZADD k 2 a", "k=a:2,b:5,c:7"},
		{"ZRANGE k 0 -1 WITHSCORES", "[$a $2 $b $5 $c $7]", "", "k=a:2,b:5,c:7"},
	} {
		r, got := zsets.Do(s, api.Call{Role: api.RolePrimary, Now: 10, Args: words(x.args)})
		if show(r) != x.reply || !sameTold(got, told(x.told)) {
			t.Errorf("%s = %s, told %s", x.args, show(r), wroteTold(got))
		}
		holds(t, x.args, s, entries(x.after))
	}
}

// Calls that are none of the package's

// none: a call on a space answers nothing, and changes nothing.
func none(t *testing.T, name string, s *space.Space, c api.Call) {
	t.Helper()
	before := s.Image()
	if r, told := zsets.Do(s, c); show(r) != "none" || told != nil {
		t.Errorf("%s: %.50q = %s, told %s", name, c.Args, short(show(r)), wroteTold(told))
	}
	holds(t, name, s, before)
}

// some is a store with a key that is over, told as soon as it is looked at.
const some = "k=a:1,b:2 l:list o=v:5@3 s=v:7@99"

// each has for every command one way to call it that does something on some.
var each = []string{
	"zadd k 3 w", "zincrby k 3 w", "zrem k a", "zscore o v", "zcard o", "zrank o v", "zrevrank o v", "zcount o 0 9",
	"zrange o 0 1", "zrevrange o 0 1", "zrangebyscore o 0 9", "zpopmin k", "zpopmax k", "zremrangebyrank k 0 0", "zremrangebyscore k 2 2",
}

// wrongs are calls that answer an error, or have more than one form.
var wrongs = []string{
	"zadd k nx xx 1 a", "zadd k incr 1 a 1 b", "zadd k x a", "zadd k ch gt 5 a", "zadd l 1 a", "zadd k incr 9223372036854775807 a", "zadd o xx 1 v", "zincrby k x a", "zrem l a", "zcount k x 1", "zrange k 0 x", "zrange k 0 1 scores", "zrange o 0 1 withscores",
	"zrangebyscore k ( 1", "zrangebyscore k 0 9 limit 1", "zrangebyscore k 0 9 limit 0 x", "zrangebyscore o 0 9 withscores limit 1 1", "zpopmin k 1 2", "zpopmax k -1", "zpopmax k 9", "zremrangebyrank k x 0", "zremrangebyscore k 0 inf-",
}

func TestASpaceThatNoCallMade(t *testing.T) {
	made := load(t, entries(some))
	copied := *made
	for name, s := range map[string]*space.Space{"nil": nil, "the zero Space": {}, "a copy": &copied} {
		for _, args := range append(wrongs, each...) {
			for _, role := range roles {
				none(t, name, s, api.Call{Role: role, Now: 9, Args: words(args)})
			}
		}
	}
	holds(t, "calls on its copy", made, entries(some))
}

func TestEachCommandIsTheTables(t *testing.T) {
	var names []string
	for _, args := range each {
		names = append(names, words(args)[0])
	}
	for _, s := range command.All() {
		if slices.Contains(names, s.Name) != (s.Group == api.GZset) {
			t.Errorf("each has %s: %t", s.Name, s.Group != api.GZset)
		}
	}
	if len(names) != 15 {
		t.Errorf("each has %d commands", len(names))
	}
}

func TestCallsThatAreNoneOfThePackages(t *testing.T) {
	s := load(t, entries(some))
	for _, role := range roles {
		c := api.Call{Role: role, Now: 9}
		for name, args := range map[string][]string{
			"no arguments": nil, "an empty list": {}, "an empty name": {""}, "an empty name and a key": {"", "o"}, "an unknown name": {"zcards", "o"}, "a name and a blank": {"zcard ", "o"}, "a key for a name": {"o", "zcard"},
			"a foreign letter": {"\u017acard", "o"}, "a letter that Go makes small": {"zran\u212a", "o", "v"}, "a name of no group": {"zinter", "1", "o"}, "a long name": {over, "o"},
		} {
			c.Args = args
			none(t, name, s, c)
		}
		for _, spec := range command.All() {
			if spec.Group != api.GZset {
				for _, name := range []string{spec.Name, strings.ToUpper(spec.Name)} {
					c.Args = append([]string{name}, slices.Repeat([]string{"o"}, max(spec.Arity, -spec.Arity)-1)...)
					none(t, "another group", s, c)
				}
			}
		}
	}
}

// As many arguments as a command has, by its row in the table, and no others.
func TestNumbersOfArguments(t *testing.T) {
	for name, arity := range arities {
		for n := range 12 {
			c := api.Call{Role: api.RolePrimary, Now: 9, Args: append([]string{name}, slices.Repeat([]string{"o"}, n)...)}
			s := load(t, entries(some))
			if n+1 == arity || arity < 0 && n+1 >= -arity {
				if r, _ := zsets.Do(s, c); show(r) == "none" {
					t.Errorf("%s with %d arguments = none", name, n)
				}
			} else {
				none(t, "too few or too many", s, c)
			}
		}
	}
}

func TestAsManyArgumentsAsMayBe(t *testing.T) {
	texts := make([]string, 2000)
	for i := range texts {
		texts[i] = strconv.Itoa(i)
	}
	for name := range arities {
		for _, n := range []int{1023, 1024, 1025, 2000} {
			s := load(t, entries("0=3:5,1:7 1=v:1@3"))
			c := api.Call{Role: api.RolePrimary, Now: 9, Args: append([]string{name}, texts[:n-1]...)}
			if n > 1024 || arities[name] > 0 {
				none(t, "too many", s, c)
				continue
			}
			newTrio(t, entries("0=3:5,1:7 1=v:1@3")).do(t, c)
			newTrio(t, entries("0=v:0@10")).do(t, c)
			if r, _ := zsets.Do(s, c); show(r) == "none" {
				t.Errorf("%s of %d arguments = none", name, n)
			}
		}
	}
	// The commands with options, with as many of these as may be.
	for _, x := range []struct {
		head, word, tail string
		n                int
		reply            string
	}{
		{"zadd k", "nx", "1 a 2 b", 1018, ":2"}, {"zadd k", "CH", "1 a", 1020, ":1"}, {"zadd k", "incr", "1 a", 1020, "$1"}, {"zadd k", "xx", "", 1022, "-SYNTAX"},
		{"zrangebyscore k -inf inf", "withscores", "", 1020, "[]"}, {"zrangebyscore k -inf inf", "limit 0 1", "withscores withscores", 339, "[]"}, {"zrange k 0 -1", "withscores", "", 1020, "-SYNTAX"},
	} {
		args := slices.Concat(words(x.head), slices.Repeat(words(x.word), x.n), words(x.tail))
		if len(args) < 1023 || len(args) > 1024 {
			t.Errorf("%s has %d arguments", x.head, len(args))
		}
		c := api.Call{Role: api.RolePrimary, Now: 9, Args: args}
		newTrio(t, entries(some)).do(t, c)
		if r, _ := zsets.Do(space.New(), c); show(r) != reply(x.reply) {
			t.Errorf("%s %s = %s; want %s", x.head, x.word, show(r), x.reply)
		}
	}
}

func TestLongArguments(t *testing.T) {
	for _, args := range append(wrongs, each...) {
		l := words(args)
		for i := 1; i < len(l); i++ {
			long := slices.Clone(l)
			long[i] = over
			s := load(t, entries(some))
			none(t, "too long", s, api.Call{Role: api.RolePrimary, Now: 9, Args: long})
			long[i] = most
			newTrio(t, entries(some)).do(t, api.Call{Role: api.RolePrimary, Now: 9, Args: long})
			if r, _ := zsets.Do(s, api.Call{Role: api.RolePrimary, Now: 9, Args: long}); show(r) == "none" {
				t.Errorf("%s with a long argument at %d = none", args, i)
			}
		}
	}
}

func TestTimesOfCalls(t *testing.T) {
	for _, args := range append(wrongs, each...) {
		for _, role := range roles {
			for _, now := range []int{math.MinInt, -1 << 40, -2, -1, 1<<40 + 1, 1<<40 + 2, math.MaxInt} {
				none(t, "a time that may not be", load(t, entries(some)), api.Call{Role: role, Now: now, Args: words(args)})
			}
			for _, now := range []int{0, 1, 1<<40 - 1, 1 << 40} {
				c := api.Call{Role: role, Now: now, Args: words(args)}
				newTrio(t, entries(some)).do(t, c)
				if r, _ := zsets.Do(load(t, entries(some)), c); show(r) == "none" {
					t.Errorf("%s at %d = none", args, now)
				}
			}
		}
	}
}

// All commands

// states are what may stand at the key k ahead of a call at 10.
func states() []string {
	l := []string{""}
	for _, v := range []string{"k=a:1", "k=a:1,b:1", "k=b:-3,a:1,:1,c:7", "k=p:9223372036854775807,a:-9223372036854775808", "k=b:5,c:5,a:9,d:5", "k:str", "k:list", "k:set", "k:hash"} {
		for _, end := range []string{"", "@0", "@9", "@10", "@11"} {
			l = append(l, v+end)
		}
	}
	return l
}

// calls are calls of all commands, on the key k, and on m, which is never there.
var calls = []string{
	"zadd k 1 a", "zadd k 2 a", "zadd k 0 a", "zadd k 3 x", "zadd k 1 ''", "zadd k 1 a 1 b", "zadd k 5 a 1 a", "zadd k 5 x 6 x", "zadd k 7 x 5 b 6 a 7 x", "zadd k nx 5 a 6 x", "zadd k xx 5 a 6 x", "zadd k gt 5 a 6 x", "zadd k lt 0 a 6 x", "zadd k ch 5 a 6 x 5 a", "zadd k gt ch 1 a", "zadd k lt ch 1 a 1 b", "zadd k xx gt ch 5 a 5 b 5 x", "zadd k nx ch 5 a 5 x",
	"zadd k incr 1 a", "zadd k incr 0 a", "zadd k incr 0 x", "zadd k incr -1 b", "zadd k nx incr 1 a", "zadd k nx incr 1 x", "zadd k xx incr 1 a", "zadd k xx incr 1 x", "zadd k gt incr 1 a", "zadd k gt incr 0 a", "zadd k gt incr -1 a", "zadd k gt incr -1 x", "zadd k lt incr 1 a", "zadd k lt incr -1 a", "zadd k lt incr 1 x", "zadd k incr ch 1 b", "zadd k incr 9223372036854775807 a", "zadd k incr -9223372036854775808 a", "zadd k incr -9223372036854775808 p", "zadd k incr 1 p", "zadd k incr 1 a 1 b",
	"zadd k nx xx 1 a", "zadd k nx gt 1 a", "zadd k nx lt 1 a", "zadd k gt lt 1 a", "zadd k nx 1", "zadd k nx ch", "zadd k 1 a 2", "zadd k x a", "zadd k 1 a x b", "zadd k 1 nx", "zadd k 1 a nx b", "zadd m xx 1 a",
	"zincrby k 1 a", "zincrby k 0 a", "zincrby k 0 x", "zincrby k -5 b", "zincrby k x a", "zincrby k 9223372036854775807 a", "zincrby k -1 a", "zincrby m 5 a",
	"zrem k a", "zrem k b a b", "zrem k x", "zrem k x '' y x", "zrem k c '' b a", "zrem k p a",
	"zscore k a", "zscore k ''", "zscore k x", "zcard k", "zrank k a", "zrank k ''", "zrank k x", "zrevrank k a", "zrevrank k ''", "zrevrank k x",
	"zcount k -inf +inf", "zcount k 1 1", "zcount k (1 inf", "zcount k 1 (5", "zcount k x 1", "zcount k 1 (", "zcount k 5 1",
	"zrange k 0 -1", "zrange k 1 1 withscores", "zrange k -2 -1", "zrange k 2 1", "zrange k x 1", "zrange k 0 1 withscore", "zrange k 0 1 withscores withscores", "zrevrange k 0 -1", "zrevrange k 1 1 withscores", "zrevrange k -2 9", "zrevrange k 0 x", "zrevrange k 0 0 limit",
	"zrangebyscore k -inf inf", "zrangebyscore k 1 5 withscores", "zrangebyscore k (1 +inf limit 0 1", "zrangebyscore k -inf inf limit 1 -1 withscores", "zrangebyscore k -inf inf limit -1 5", "zrangebyscore k x inf", "zrangebyscore k inf x", "zrangebyscore k 1 5 limit 1", "zrangebyscore k 1 5 limit x 1", "zrangebyscore k 1 5 scores",
	"zpopmin k", "zpopmax k", "zpopmin k 0", "zpopmax k 1", "zpopmin k 2", "zpopmax k 2", "zpopmin k 4", "zpopmax k 99", "zpopmin k -1", "zpopmax k x", "zpopmin k 1 1", "zpopmax k x y z",
	"zremrangebyrank k 0 -1", "zremrangebyrank k 1 1", "zremrangebyrank k 1 0", "zremrangebyrank k -1 -1", "zremrangebyrank k x 0", "zremrangebyrank k 0 x",
	"zremrangebyscore k -inf +inf", "zremrangebyscore k 1 1", "zremrangebyscore k (1 (7", "zremrangebyscore k 7 1", "zremrangebyscore k x 1", "zremrangebyscore k 1 x",
}

// mixed is a text with its letters great and small by turns.
func mixed(s string) string {
	b := []byte(s)
	for i := range b {
		if b[i] >= 'a' && b[i] <= 'z' && i%2 == 0 {
			b[i] -= 'a' - 'A'
		}
	}
	return string(b)
}

// inCase is a call with its name, and its words of options, in another case.
func inCase(args []string, other func(string) string) []string {
	l := slices.Clone(args)
	l[0] = other(l[0])
	for i := 2; i < len(l); i++ {
		if slices.Contains([]string{"nx", "xx", "gt", "lt", "ch", "incr", "withscores", "limit"}, l[i]) {
			l[i] = other(l[i])
		}
	}
	return l
}

// Each call by each role on each state of its key, its name and its words in any case, and what is told done on another space.
func TestEachCallByEachRoleOnEachState(t *testing.T) {
	t.Parallel()
	for _, state := range states() {
		for _, n := range []string{"", " n=q:1@10"} {
			for _, text := range calls {
				for _, role := range roles {
					args := words(text)
					newTrio(t, entries(state+n)).do(t, api.Call{Role: role, Now: 10, Draw: 7, Args: args})
					if role > 3 || role < 1 {
						continue
					}
					newTrio(t, entries(state+n)).do(t, api.Call{Role: role, Now: 10, Args: inCase(args, strings.ToUpper)})
					newTrio(t, entries(state+n)).do(t, api.Call{Role: role, Now: 10, Args: inCase(args, mixed)})
				}
			}
		}
	}
}

// What is over by the call's time, for whom.
func TestHowAKeyIsLookedAt(t *testing.T) {
	for _, at := range []string{"@0", "@9", "@10"} {
		k := "k=a:1,b:2" + at
		check(t, api.RolePrimary, 10,
			row{k, "ZADD k 1 a", ":1", "DEL k | ZADD k 1 a", "k=a:1"},
			row{k, "ZADD k XX 5 a", ":0", "DEL k", ""},
			row{k, "ZADD k NX 5 a", ":1", "DEL k | ZADD k 5 a", "k=a:5"},
			row{k, "ZADD k INCR 5 a", "$5", "DEL k | ZADD k 5 a", "k=a:5"},
			row{k, "ZADD k XX INCR 5 a", "nil", "DEL k", ""},
			row{k, "ZINCRBY k 5 a", "$5", "DEL k | ZADD k 5 a", "k=a:5"},
			row{k, "ZREM k a", ":0", "DEL k", ""},
			row{k, "ZSCORE k a", "nil", "DEL k", ""},
			row{k, "ZCARD k", ":0", "DEL k", ""},
			row{k, "ZRANK k a", "nil", "DEL k", ""},
			row{k, "ZREVRANK k a", "nil", "DEL k", ""},
			row{k, "ZCOUNT k -inf inf", ":0", "DEL k", ""},
			row{k, "ZRANGE k 0 -1", "[]", "DEL k", ""},
			row{k, "ZREVRANGE k 0 -1 WITHSCORES", "[]", "DEL k", ""},
			row{k, "ZRANGEBYSCORE k 0 9", "[]", "DEL k", ""},
			row{k, "ZPOPMIN k", "[]", "DEL k", ""},
			row{k, "ZPOPMAX k 2", "[]", "DEL k", ""},
			row{k, "ZREMRANGEBYRANK k 0 -1", ":0", "DEL k", ""},
			row{k, "ZREMRANGEBYSCORE k 0 9", ":0", "DEL k", ""},
			row{"k:set" + at, "ZCARD k", ":0", "DEL k", ""},
			row{"k:set" + at, "ZADD k 2 y 1 x", ":2", "DEL k | ZADD k 2 y 1 x", "k=x:1,y:2"},
		)
		for _, role := range []api.Role{api.RoleStream, 0, 4, -1, 257, math.MaxInt, math.MinInt} {
			check(t, role, 10,
				row{k, "ZCARD k", ":2", "", "="},
				row{k, "ZADD k 5 a 3 c", ":1", "ZADD k 5 a 3 c", "k=b:2,c:3,a:5" + at},
				row{k, "ZINCRBY k 5 a", "$6", "ZADD k 6 a", "k=b:2,a:6" + at},
				row{k, "ZREM k a", ":1", "ZREM k a", "k=b:2" + at},
				row{k, "ZPOPMAX k", "[$b $2]", "ZREM k b", "k=a:1" + at},
				row{k, "ZPOPMIN k 2", "[$a $1 $b $2]", "ZREM k a b", ""},
				row{k, "ZREMRANGEBYRANK k 0 0", ":1", "ZREM k a", "k=b:2" + at},
				row{k, "ZREMRANGEBYSCORE k (1 2", ":1", "ZREM k b", "k=a:1" + at},
				row{"k:set" + at, "ZCARD k", "-WRONG", "", "="},
			)
		}
	}
	for _, role := range roles {
		check(t, role, 10, row{"k=a:1@11", "ZCARD k", ":1", "", "="}, row{"k=a:1", "ZCARD k", ":1", "", "="}, row{"k:set@11", "ZCARD k", "-WRONG", "", "="})
	}
}

// A key that is over for a reader is not there, but stays; what is put there is new.
func TestAKeyThatIsOverForAReader(t *testing.T) {
	for _, k := range []string{"k=a:1,b:2@10", "k:hash@9", "k=x:5@0"} {
		check(t, api.RoleReader, 10,
			row{k, "ZADD k XX 5 a", ":0", "", "="},
			row{k, "ZADD k XX INCR 5 a", "nil", "", "="},
			row{k, "ZREM k a x", ":0", "", "="},
			row{k, "ZSCORE k a", "nil", "", "="},
			row{k, "ZCARD k", ":0", "", "="},
			row{k, "ZRANK k a", "nil", "", "="},
			row{k, "ZREVRANK k a", "nil", "", "="},
			row{k, "ZCOUNT k 0 9", ":0", "", "="},
			row{k, "ZRANGE k 0 -1", "[]", "", "="},
			row{k, "ZREVRANGE k 0 -1", "[]", "", "="},
			row{k, "ZRANGEBYSCORE k 0 9", "[]", "", "="},
			row{k, "ZPOPMIN k", "[]", "", "="},
			row{k, "ZPOPMAX k 9", "[]", "", "="},
			row{k, "ZREMRANGEBYRANK k 0 -1", ":0", "", "="},
			row{k, "ZREMRANGEBYSCORE k 0 9", ":0", "", "="},
			row{k, "ZADD k 2 y 1 x", ":2", "ZADD k 2 y 1 x", "k=x:1,y:2"},
			row{k, "ZADD k 1 a 2 b", ":2", "ZADD k 1 a 2 b", "k=a:1,b:2"},
			row{k, "ZADD k GT 0 a", ":1", "ZADD k 0 a", "k=a:0"},
			row{k, "ZADD k INCR 5 a", "$5", "ZADD k 5 a", "k=a:5"},
			row{k, "ZINCRBY k 0 a", "$0", "ZADD k 0 a", "k=a:0"},
		)
	}
}

// What an error ahead of looking leaves, and what is told beside one behind it.
func TestWhatErrorsLeave(t *testing.T) {
	for _, args := range []string{
		"ZADD k NX 1", "ZADD k NX XX 1 a", "ZADD k GT LT 1 a", "ZADD k 1 a 2", "ZADD k INCR 1 a 2 b", "ZADD k x a", "ZADD k 1 a x b", "ZINCRBY k x a", "ZCOUNT k x 1", "ZCOUNT k 1 x", "ZRANGE k x 1", "ZRANGE k 1 x", "ZRANGE k 0 1 x", "ZREVRANGE k x 1", "ZREVRANGE k 0 1 WITHSCORES WITHSCORES",
		"ZRANGEBYSCORE k x 1", "ZRANGEBYSCORE k 1 x", "ZRANGEBYSCORE k 0 1 x", "ZRANGEBYSCORE k 0 1 LIMIT 1", "ZRANGEBYSCORE k 0 1 LIMIT x 1", "ZRANGEBYSCORE k 0 1 LIMIT 1 x", "ZPOPMIN k 1 1", "ZPOPMAX k x", "ZPOPMIN k -1", "ZREMRANGEBYRANK k x 1", "ZREMRANGEBYRANK k 1 x", "ZREMRANGEBYSCORE k x 1", "ZREMRANGEBYSCORE k 1 x",
	} {
		for _, k := range []string{"k=v:1@9", "k:hash"} { // ahead of WRONG, too
			c := api.Call{Role: api.RolePrimary, Now: 10, Args: words(args)}
			r, told := zsets.Do(load(t, entries(k)), c)
			if r.Kind != api.RError || r.S == errors["WRONG"] || len(told) > 0 {
				t.Errorf("%s = %s, told %s; want an error ahead of looking", args, show(r), wroteTold(told))
			}
			newTrio(t, entries(k)).do(t, c)
		}
	}
	for _, args := range []string{"ZADD k INCR 9223372036854775807 v", "ZINCRBY k 9223372036854775807 v"} {
		check(t, api.RolePrimary, 10, row{"k:hash", args, "-WRONG", "", "="}, row{"k=v:1@11", args, "-OVER", "", "="}, row{"k=v:1@9", args, "$9223372036854775807", "DEL k | ZADD k 9223372036854775807 v", "k=v:9223372036854775807"})
	}
}
