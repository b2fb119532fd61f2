package lists_test

import (
	"math"
	"slices"
	"strconv"
	"strings"
	"testing"

	"millpond/api"
	"millpond/command"
	"millpond/lists"
	"millpond/space"
)

// The example

func TestTheExample(t *testing.T) {
	s := space.New()
	for _, x := range []struct{ args, reply, told string }{
		{"LPUSH k a b", ":2", "LPUSH k a b"},
		{"LRANGE k 0 -1", "[$b $a]", ""},
		{"LPOP k 0", "[]", ""},
		{"RPOPLPUSH k k", "$a", "LMOVE k k RIGHT LEFT"},
		{"LRANGE k 0 -1", "[$a $b]", ""},
	} {
		r, got := lists.Do(s, api.Call{Role: api.RolePrimary, Now: 10, Args: words(x.args)})
		if show(r) != x.reply || !sameTold(got, told(x.told)) {
			t.Errorf("%s = %s, told %s", x.args, show(r), wroteTold(got))
		}
	}
	holds(t, "the example", s, entries("k=a,b"))
}

// Calls that are none of the package's

// none: a call on a space answers nothing, and changes nothing.
func none(t *testing.T, name string, s *space.Space, c api.Call) {
	t.Helper()
	before := s.Image()
	if r, told := lists.Do(s, c); show(r) != "none" || len(told) > 0 {
		t.Errorf("%s: %.50q = %s, told %s", name, c.Args, short(show(r)), wroteTold(told))
	}
	holds(t, name, s, before)
}

// some is a store with a key that is over, told as soon as it is looked at.
const some = "k=a,b l:str o=v@3 s=v@99"

// each has for every command one way to call it that does something on some.
var each = []string{
	"lpush k w", "rpush k w", "lpushx k w", "rpushx k w", "lpop k", "rpop k", "llen o", "lrange o 0 1", "lindex o 0",
	"lset k 0 w", "lrem k 0 a", "ltrim k 1 1", "linsert k after a w", "rpoplpush k s", "lmove k s left left",
}

// wrongs are calls that answer an error, or have more than one form.
var wrongs = []string{"lpop k 1 2", "rpop k x", "lpop k 1", "lset n 0 v", "lset k 9 v", "lset k x v", "linsert k by a w", "lmove k s up left", "llen l", "lmove o s left left"}

func TestASpaceThatNoCallMade(t *testing.T) {
	made := load(t, entries(some))
	copied := *made
	for name, s := range map[string]*space.Space{"nil": nil, "the zero Space": {}, "a copy": &copied} {
		for _, args := range append(wrongs, each...) {
			for _, role := range roles {
				none(t, name, s, api.Call{Role: role, Now: 9, Args: words(args)})
			}
		}
	}
	holds(t, "calls on its copy", made, entries(some))
}

func TestEachCommandIsTheTables(t *testing.T) {
	var names []string
	for _, args := range each {
		names = append(names, words(args)[0])
	}
	for _, s := range command.All() {
		if slices.Contains(names, s.Name) != (s.Group == api.GList) {
			t.Errorf("each has %s: %t", s.Name, s.Group != api.GList)
		}
	}
	if len(names) != 15 {
		t.Errorf("each has %d commands", len(names))
	}
}

func TestCallsThatAreNoneOfThePackages(t *testing.T) {
	s := load(t, entries(some))
	for _, role := range roles {
		c := api.Call{Role: role, Now: 9}
		for name, args := range map[string][]string{
			"no arguments": nil, "an empty list": {}, "an empty name": {""}, "an empty name and a key": {"", "o"}, "an unknown name": {"llenn", "o"}, "a name and a blank": {"llen ", "o"}, "a key for a name": {"o", "llen"},
			"a foreign letter": {"l\u0142en", "o"}, "a letter that Go makes small": {"lpu\u017fh", "o", "v"}, "a name of no group": {"lmpop", "1", "o", "LEFT"}, "a long name": {over, "o"},
		} {
			c.Args = args
			none(t, name, s, c)
		}
		for _, spec := range command.All() {
			if spec.Group != api.GList {
				for _, name := range []string{spec.Name, strings.ToUpper(spec.Name)} {
					c.Args = append([]string{name}, slices.Repeat([]string{"o"}, max(spec.Arity, -spec.Arity)-1)...)
					none(t, "another group", s, c)
				}
			}
		}
	}
}

// As many arguments as a command has, by its row in the table, and no others.
func TestNumbersOfArguments(t *testing.T) {
	for name, arity := range arities {
		for n := range 12 {
			c := api.Call{Role: api.RolePrimary, Now: 9, Args: append([]string{name}, slices.Repeat([]string{"o"}, n)...)}
			s := load(t, entries(some))
			if n+1 == arity || arity < 0 && n+1 >= -arity {
				if r, _ := lists.Do(s, c); show(r) == "none" {
					t.Errorf("%s with %d arguments = none", name, n)
				}
			} else {
				none(t, "too few or too many", s, c)
			}
		}
	}
}

func TestAsManyArgumentsAsMayBe(t *testing.T) {
	items := make([]string, 2000)
	for i := range items {
		items[i] = "item" + strconv.Itoa(i)
	}
	for name := range arities {
		for _, n := range []int{1024, 1025, 2000} {
			s := load(t, entries("item0=v@3 item1=v"))
			c := api.Call{Role: api.RolePrimary, Now: 9, Args: append([]string{name}, items[:n-1]...)}
			if n > 1024 || arities[name] > 0 {
				none(t, "too many", s, c)
				continue
			}
			newTrio(t, entries("item0=v@3 item1=v")).do(t, c)
			newTrio(t, entries("item0=v@10")).do(t, c)
			if r, _ := lists.Do(s, c); show(r) == "none" {
				t.Errorf("%s of %d arguments = none", name, n)
			}
		}
	}
}

func TestLongArguments(t *testing.T) {
	for _, args := range append(wrongs, each...) {
		l := words(args)
		for i := 1; i < len(l); i++ {
			long := slices.Clone(l)
			long[i] = over
			s := load(t, entries(some))
			none(t, "too long", s, api.Call{Role: api.RolePrimary, Now: 9, Args: long})
			long[i] = most
			newTrio(t, entries(some)).do(t, api.Call{Role: api.RolePrimary, Now: 9, Args: long})
			if r, _ := lists.Do(s, api.Call{Role: api.RolePrimary, Now: 9, Args: long}); show(r) == "none" {
				t.Errorf("%s with a long argument at %d = none", args, i)
			}
		}
	}
}

func TestTimesOfCalls(t *testing.T) {
	for _, args := range append(wrongs, each...) {
		for _, role := range roles {
			for _, now := range []int{math.MinInt, -1 << 40, -2, -1, 1<<40 + 1, 1<<40 + 2, math.MaxInt} {
				none(t, "a time that may not be", load(t, entries(some)), api.Call{Role: role, Now: now, Args: words(args)})
			}
			for _, now := range []int{0, 1, 1<<40 - 1, 1 << 40} {
				c := api.Call{Role: role, Now: now, Args: words(args)}
				newTrio(t, entries(some)).do(t, c)
				if r, _ := lists.Do(load(t, entries(some)), c); show(r) == "none" {
					t.Errorf("%s at %d = none", args, now)
				}
			}
		}
	}
}

// All commands

// states are what may stand at the key k ahead of a call at 10.
func states() []string {
	l := []string{""}
	for _, v := range []string{"k=a", "k=a,b", "k=a,a", "k=b,a,''", "k=a,b,a,c,b", "k:str", "k:set", "k:zset", "k:hash"} {
		for _, end := range []string{"", "@0", "@9", "@10", "@11"} {
			l = append(l, v+end)
		}
	}
	return l
}

// calls are calls of all commands, on the keys k and n.
var calls = []string{
	"lpush k x", "lpush k x y x", "lpush k ''", "rpush k x", "rpush k x y z", "rpush k a a", "lpushx k x", "lpushx k x y", "rpushx k x", "rpushx k x y",
	"lpop k", "rpop k", "lpop k 0", "rpop k 0", "lpop k 1", "rpop k 1", "lpop k 2", "rpop k 2", "lpop k 3", "rpop k 99", "lpop k -1", "rpop k -1", "lpop k x", "rpop k ''", "lpop k 01", "lpop k 1 1", "rpop k x x", "rpop k 1 1 1",
	"llen k", "lrange k 0 -1", "lrange k 1 1", "lrange k -2 -1", "lrange k 2 1", "lrange k 0 99", "lrange k x 0", "lrange k 0 x", "lindex k 0", "lindex k -1", "lindex k 1", "lindex k 5", "lindex k -6", "lindex k x",
	"lset k 0 a", "lset k 0 x", "lset k -1 x", "lset k -1 a", "lset k 1 b", "lset k 5 x", "lset k -6 x", "lset k x x",
	"lrem k 0 a", "lrem k 1 a", "lrem k -1 a", "lrem k 2 a", "lrem k -2 b", "lrem k 0 b", "lrem k 0 z", "lrem k 1 ''", "lrem k x a",
	"ltrim k 0 -1", "ltrim k 1 -1", "ltrim k 0 0", "ltrim k 0 -2", "ltrim k 1 0", "ltrim k 9 9", "ltrim k x 0", "ltrim k 0 x",
	"linsert k before a x", "linsert k after a x", "linsert k before b x", "linsert k after b b", "linsert k before z x", "linsert k after '' x", "linsert k by a x", "linsert k '' z x",
	"rpoplpush k n", "rpoplpush k k", "rpoplpush n k", "rpoplpush n n", "lmove k n left left", "lmove k n left right", "lmove k n right left", "lmove k n right right", "lmove k k left left", "lmove k k left right", "lmove k k right left", "lmove k k right right", "lmove n k left right", "lmove n k right right", "lmove k n up left", "lmove k n left ''", "lmove n k rıght left", "lmove m k left left", "lmove k m right right",
}

// mixed is a text with its letters great and small by turns.
func mixed(s string) string {
	b := []byte(s)
	for i := range b {
		if b[i] >= 'a' && b[i] <= 'z' && i%2 == 0 {
			b[i] -= 'a' - 'A'
		}
	}
	return string(b)
}

// inCase is a call with its name, and its words of options, in another case.
func inCase(args []string, other func(string) string) []string {
	l := slices.Clone(args)
	l[0] = other(l[0])
	switch args[0] {
	case "linsert":
		l[2] = other(l[2])
	case "lmove":
		l[3], l[4] = other(l[3]), other(l[4])
	}
	return l
}

// Each call by each role on each state of its key, its name and its words in any case, and what is told done on another space.
func TestEachCallByEachRoleOnEachState(t *testing.T) {
	t.Parallel()
	for _, state := range states() {
		for _, n := range []string{"", " n=q", " n=p,q@11", " n=q@10", " n:set", " n:hash@9"} {
			for _, text := range calls {
				for _, role := range roles {
					args := words(text)
					newTrio(t, entries(state+n)).do(t, api.Call{Role: role, Now: 10, Draw: 7, Args: args})
					if role > 3 || role < 1 {
						continue
					}
					newTrio(t, entries(state+n)).do(t, api.Call{Role: role, Now: 10, Args: inCase(args, strings.ToUpper)})
					newTrio(t, entries(state+n)).do(t, api.Call{Role: role, Now: 10, Args: inCase(args, mixed)})
				}
			}
		}
	}
}

// What is over by the call's time, for whom.
func TestHowAKeyIsLookedAt(t *testing.T) {
	for _, at := range []string{"@0", "@9", "@10"} {
		k := "k=a,b" + at
		check(t, api.RolePrimary, 10,
			row{k, "LLEN k", ":0", "DEL k", ""},
			row{k, "LPUSH k x", ":1", "DEL k | LPUSH k x", "k=x"},
			row{k, "RPUSHX k x", ":0", "DEL k", ""},
			row{k, "LPOP k", "nil", "DEL k", ""},
			row{k, "RPOP k 2", "nilarray", "DEL k", ""},
			row{k, "LSET k 0 x", "-NOKEY", "DEL k", ""},
			row{k, "LTRIM k 0 0", "+OK", "DEL k", ""},
			row{k, "LREM k 0 a", ":0", "DEL k", ""},
			row{k, "LINSERT k BEFORE a x", ":0", "DEL k", ""},
			row{k, "LMOVE k n LEFT LEFT", "nil", "DEL k", ""},
			row{k + " n=x", "RPOPLPUSH n k", "$x", "DEL k | LMOVE n k RIGHT LEFT", "k=x"},
			row{k + " n=x@10", "RPOPLPUSH n k", "nil", "DEL n", k},
			row{k + " n=x@10", "LMOVE k n LEFT RIGHT", "nil", "DEL k", "n=x@10"},
			row{"k:set" + at, "LINDEX k 0", "nil", "DEL k", ""},
			row{"k:set" + at, "RPUSH k x y", ":2", "DEL k | RPUSH k x y", "k=x,y"},
			row{"k:set" + at + " n=x", "RPOPLPUSH n k", "$x", "DEL k | LMOVE n k RIGHT LEFT", "k=x"},
		)
		for _, role := range []api.Role{api.RoleStream, 0, 4, -1, 257, math.MaxInt, math.MinInt} {
			check(t, role, 10,
				row{k, "LLEN k", ":2", "", "="},
				row{k, "LPUSH k x", ":3", "LPUSH k x", "k=x,a,b" + at},
				row{k, "LPOP k", "$a", "LPOP k", "k=b" + at},
				row{k, "LPOP k 2", "[$a $b]", "LPOP k 2", ""},
				row{k + " n=x", "RPOPLPUSH n k", "$x", "LMOVE n k RIGHT LEFT", "k=x,a,b" + at},
				row{k + " n=x@10", "RPOPLPUSH k n", "$b", "LMOVE k n RIGHT LEFT", "k=a" + at + " n=b,x@10"},
				row{"k:set" + at, "LLEN k", "-WRONG", "", "="},
			)
		}
	}
	for _, role := range roles {
		check(t, role, 10, row{"k=a@11", "LLEN k", ":1", "", "="}, row{"k=a", "LLEN k", ":1", "", "="}, row{"k:set@11", "LLEN k", "-WRONG", "", "="})
	}
}

// A key that is over for a reader is not there, but stays; what is put there is new.
func TestAKeyThatIsOverForAReader(t *testing.T) {
	for _, k := range []string{"k=a,b@10", "k:hash@9", "k=x@0"} {
		check(t, api.RoleReader, 10,
			row{k, "LLEN k", ":0", "", "="},
			row{k, "LRANGE k 0 -1", "[]", "", "="},
			row{k, "LINDEX k 0", "nil", "", "="},
			row{k, "LPUSHX k x", ":0", "", "="},
			row{k, "RPUSHX k x", ":0", "", "="},
			row{k, "LPOP k", "nil", "", "="},
			row{k, "RPOP k 1", "nilarray", "", "="},
			row{k, "LSET k 0 x", "-NOKEY", "", "="},
			row{k, "LREM k 0 a", ":0", "", "="},
			row{k, "LTRIM k 1 0", "+OK", "", "="},
			row{k, "LINSERT k AFTER a x", ":0", "", "="},
			row{k, "RPOPLPUSH k n", "nil", "", "="},
			row{k, "LMOVE k k LEFT RIGHT", "nil", "", "="},
			row{k, "LPUSH k x y", ":2", "LPUSH k x y", "k=y,x"},
			row{k, "RPUSH k x y", ":2", "RPUSH k x y", "k=x,y"},
			row{k + " n=p,q@11", "RPOPLPUSH n k", "$q", "LMOVE n k RIGHT LEFT", "k=q n=p@11"},
			row{k + " n=p", "LMOVE n k LEFT RIGHT", "$p", "LMOVE n k LEFT RIGHT", "k=p"},
		)
	}
}

// What looking tells comes first of all, beside errors, too, and of two keys in their order.
func TestWhatLookingTells(t *testing.T) {
	check(t, api.RolePrimary, 10,
		row{"k=a n=q@9", "RPOPLPUSH k n", "$a", "DEL n | LMOVE k n RIGHT LEFT", "n=a"},
		row{"k=a@9 n=q@9", "RPOPLPUSH k n", "nil", "DEL k", "n=q@9"},
		row{"k=a@9 n:set", "RPOPLPUSH k n", "nil", "DEL k", "n:set"},
		row{"k=a@9", "LMOVE k k LEFT RIGHT", "nil", "DEL k", ""},
		row{"k=a@9", "LSET k 0 v", "-NOKEY", "DEL k", ""},
		row{"k:set n=q@9", "RPOPLPUSH k n", "-WRONG", "", "="},
	)
	// What an error ahead of looking leaves.
	for _, args := range []string{
		"LPOP k 1 2", "RPOP k 1 2 3", "LPOP k x", "RPOP k -1", "LRANGE k x 0", "LRANGE k 0 x", "LINDEX k x", "LSET k x v", "LREM k x v", "LTRIM k x 0", "LTRIM k 0 x",
		"LINSERT k by a b", "LMOVE k n LEFT up", "LMOVE k n up RIGHT",
	} {
		r, told := lists.Do(load(t, entries("k=v@9 n=v@9")), api.Call{Role: api.RolePrimary, Now: 10, Args: words(args)})
		if r.Kind != api.RError || len(told) > 0 {
			t.Errorf("%s = %s, told %s; want an error ahead of looking", args, show(r), wroteTold(told))
		}
		newTrio(t, entries("k=v@9 n=v@9")).do(t, api.Call{Role: api.RolePrimary, Now: 10, Args: words(args)})
	}
}
