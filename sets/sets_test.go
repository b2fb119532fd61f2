package sets_test

import (
	"math"
	"slices"
	"strconv"
	"strings"
	"testing"

	"millpond/api"
	"millpond/command"
	"millpond/sets"
	"millpond/space"
)

// The example

func TestTheExample(t *testing.T) {
	s := space.New()
	for _, x := range []struct {
		args        string
		draw        uint64
		reply, told string
		after       string
	}{
		{"SADD s b a b", 0, ":2", "SADD s a b", "s=a,b"},
		{"SPOP s", 1, "$b", "SREM s b", "s=a"},
		{"SMOVE s t a", 0, ":1", "SREM s a | SADD t a", "t=a"},
	} {
		r, got := sets.Do(s, api.Call{Role: api.RolePrimary, Now: 10, Draw: x.draw, Args: words(x.args)})
		if show(r) != x.reply || !sameTold(got, told(x.told)) {
			t.Errorf("%s = %s, told %s", x.args, show(r), wroteTold(got))
		}
		holds(t, x.args, s, entries(x.after))
	}
}

// Calls that are none of the package's

// none: a call on a space answers nothing, and changes nothing.
func none(t *testing.T, name string, s *space.Space, c api.Call) {
	t.Helper()
	before := s.Image()
	if r, told := sets.Do(s, c); show(r) != "none" || len(told) > 0 {
		t.Errorf("%s: %.50q = %s, told %s", name, c.Args, short(show(r)), wroteTold(told))
	}
	holds(t, name, s, before)
}

// some is a store with a key that is over, told as soon as it is looked at.
const some = "k=a,b l:list o=v@3 s=v@99"

// each has for every command one way to call it that does something on some.
var each = []string{
	"sadd k w", "srem k a", "sismember o v", "smismember o v w", "scard o", "smembers o", "spop k", "srandmember o", "smove k s a",
	"sunion k o", "sinter o k", "sdiff k o", "sunionstore n k s", "sinterstore o k k", "sdiffstore k k o",
}

// wrongs are calls that answer an error, or have more than one form.
var wrongs = []string{"spop k 1 2", "spop k 1", "spop k x", "spop k -1", "srandmember k 1 2", "srandmember k -3", "srandmember k -1025", "srandmember o x", "sadd l x", "smove o l v", "sunion o l", "sinterstore o l k", "spop k 9", "smove k k a"}

func TestASpaceThatNoCallMade(t *testing.T) {
	made := load(t, entries(some))
	copied := *made
	for name, s := range map[string]*space.Space{"nil": nil, "the zero Space": {}, "a copy": &copied} {
		for _, args := range append(wrongs, each...) {
			for _, role := range roles {
				none(t, name, s, api.Call{Role: role, Now: 9, Args: words(args)})
			}
		}
	}
	holds(t, "calls on its copy", made, entries(some))
}

func TestEachCommandIsTheTables(t *testing.T) {
	var names []string
	for _, args := range each {
		names = append(names, words(args)[0])
	}
	for _, s := range command.All() {
		if slices.Contains(names, s.Name) != (s.Group == api.GSet) {
			t.Errorf("each has %s: %t", s.Name, s.Group != api.GSet)
		}
	}
	if len(names) != 15 {
		t.Errorf("each has %d commands", len(names))
	}
}

func TestCallsThatAreNoneOfThePackages(t *testing.T) {
	s := load(t, entries(some))
	for _, role := range roles {
		c := api.Call{Role: role, Now: 9}
		for name, args := range map[string][]string{
			"no arguments": nil, "an empty list": {}, "an empty name": {""}, "an empty name and a key": {"", "o"}, "an unknown name": {"scards", "o"}, "a name and a blank": {"scard ", "o"}, "a key for a name": {"o", "scard"},
			"a foreign letter": {"\u015bcard", "o"}, "a letter that Go makes small": {"\u017fcard", "o"}, "a name of no group": {"sintercard", "1", "o"}, "a long name": {over, "o"},
		} {
			c.Args = args
			none(t, name, s, c)
		}
		for _, spec := range command.All() {
			if spec.Group != api.GSet {
				for _, name := range []string{spec.Name, strings.ToUpper(spec.Name)} {
					c.Args = append([]string{name}, slices.Repeat([]string{"o"}, max(spec.Arity, -spec.Arity)-1)...)
					none(t, "another group", s, c)
				}
			}
		}
	}
}

// As many arguments as a command has, by its row in the table, and no others.
func TestNumbersOfArguments(t *testing.T) {
	for name, arity := range arities {
		for n := range 12 {
			c := api.Call{Role: api.RolePrimary, Now: 9, Args: append([]string{name}, slices.Repeat([]string{"o"}, n)...)}
			s := load(t, entries(some))
			if n+1 == arity || arity < 0 && n+1 >= -arity {
				if r, _ := sets.Do(s, c); show(r) == "none" {
					t.Errorf("%s with %d arguments = none", name, n)
				}
			} else {
				none(t, "too few or too many", s, c)
			}
		}
	}
}

func TestAsManyArgumentsAsMayBe(t *testing.T) {
	texts := make([]string, 2000)
	for i := range texts {
		texts[i] = "item" + strconv.Itoa(i)
	}
	for name := range arities {
		for _, n := range []int{1024, 1025, 2000} {
			s := load(t, entries("item0=v,item1 item1=v@3"))
			c := api.Call{Role: api.RolePrimary, Now: 9, Args: append([]string{name}, texts[:n-1]...)}
			if n > 1024 || arities[name] > 0 {
				none(t, "too many", s, c)
				continue
			}
			newTrio(t, entries("item0=v,item1 item1=v@3")).do(t, c)
			newTrio(t, entries("item0=v@10")).do(t, c)
			if r, _ := sets.Do(s, c); show(r) == "none" {
				t.Errorf("%s of %d arguments = none", name, n)
			}
		}
	}
}

func TestLongArguments(t *testing.T) {
	for _, args := range append(wrongs, each...) {
		l := words(args)
		for i := 1; i < len(l); i++ {
			long := slices.Clone(l)
			long[i] = over
			s := load(t, entries(some))
			none(t, "too long", s, api.Call{Role: api.RolePrimary, Now: 9, Args: long})
			long[i] = most
			newTrio(t, entries(some)).do(t, api.Call{Role: api.RolePrimary, Now: 9, Args: long})
			if r, _ := sets.Do(s, api.Call{Role: api.RolePrimary, Now: 9, Args: long}); show(r) == "none" {
				t.Errorf("%s with a long argument at %d = none", args, i)
			}
		}
	}
}

func TestTimesOfCalls(t *testing.T) {
	for _, args := range append(wrongs, each...) {
		for _, role := range roles {
			for _, now := range []int{math.MinInt, -1 << 40, -2, -1, 1<<40 + 1, 1<<40 + 2, math.MaxInt} {
				none(t, "a time that may not be", load(t, entries(some)), api.Call{Role: role, Now: now, Args: words(args)})
			}
			for _, now := range []int{0, 1, 1<<40 - 1, 1 << 40} {
				c := api.Call{Role: role, Now: now, Args: words(args)}
				newTrio(t, entries(some)).do(t, c)
				if r, _ := sets.Do(load(t, entries(some)), c); show(r) == "none" {
					t.Errorf("%s at %d = none", args, now)
				}
			}
		}
	}
}

// All commands

// states are what may stand at the key k ahead of a call at 10.
func states() []string {
	l := []string{""}
	for _, v := range []string{"k=a", "k=a,b", "k='',a,b,c", "k=p,q", "k:str", "k:list", "k:zset", "k:hash"} {
		for _, end := range []string{"", "@0", "@9", "@10", "@11"} {
			l = append(l, v+end)
		}
	}
	return l
}

// calls are calls of all commands, on the keys k, n, and m, which is never there.
var calls = []string{
	"sadd k a", "sadd k x", "sadd k b a", "sadd k y x a x", "sadd k ''", "srem k a", "srem k b a b", "srem k c '' b a", "srem k x", "srem k x '' y x", "srem k q p",
	"sismember k a", "sismember k x", "sismember k ''", "smismember k a", "smismember k x a x a", "scard k", "smembers k",
	"spop k", "spop k 0", "spop k 1", "spop k 2", "spop k 3", "spop k 65536", "spop k 65537", "spop k 9223372036854775807", "spop k -1", "spop k -9223372036854775808", "spop k x", "spop k ''", "spop k 01", "spop k 1 1", "spop k x y", "spop k 1 1 1",
	"srandmember k", "srandmember k 0", "srandmember k 1", "srandmember k 2", "srandmember k 3", "srandmember k 65537", "srandmember k 9223372036854775807", "srandmember k -1", "srandmember k -5", "srandmember k -1024", "srandmember k -1025", "srandmember k -9223372036854775808", "srandmember k x", "srandmember k -0", "srandmember k 1 1", "srandmember k x y",
	"smove k n a", "smove k n x", "smove k n q", "smove n k a", "smove n k q", "smove k k a", "smove k k x", "smove k m a", "smove m k a", "smove m m a",
	"sunion k", "sunion k n", "sunion n m k", "sunion k k", "sunion m m", "sinter k", "sinter k n", "sinter n k n", "sinter k m", "sinter m k", "sdiff k", "sdiff k n", "sdiff n k m", "sdiff k k", "sdiff m k", "sdiff k m m",
	"sunionstore m k", "sunionstore k n", "sunionstore k k", "sunionstore n k n", "sunionstore n m", "sunionstore m n k m", "sunionstore k m m", "sinterstore m k n", "sinterstore k k n", "sinterstore n k", "sinterstore k n m", "sdiffstore m k n", "sdiffstore k k n", "sdiffstore n n k", "sdiffstore k k k", "sdiffstore n k m", "sdiffstore k n k",
}

// mixed is a text with its letters great and small by turns.
func mixed(s string) string {
	b := []byte(s)
	for i := range b {
		if b[i] >= 'a' && b[i] <= 'z' && i%2 == 0 {
			b[i] -= 'a' - 'A'
		}
	}
	return string(b)
}

// Each call by each role on each state of its key, its name in any case, and what is told done on another space.
func TestEachCallByEachRoleOnEachState(t *testing.T) {
	t.Parallel()
	for i, state := range states() {
		for j, n := range []string{"", " n=q", " n=a,p,q@11", " n=a@10", " n:list", " n:hash@9"} {
			for k, text := range calls {
				for _, role := range roles {
					c := api.Call{Role: role, Now: 10, Draw: uint64(i+j+k) * 0x9e3779b97f4a7c15, Args: words(text)}
					newTrio(t, entries(state+n)).do(t, c)
					if role > 3 || role < 1 {
						continue
					}
					for _, other := range []func(string) string{strings.ToUpper, mixed} {
						c.Args[0] = other(words(text)[0])
						newTrio(t, entries(state+n)).do(t, c)
					}
				}
			}
		}
	}
}

// What is over by the call's time, for whom.
func TestHowAKeyIsLookedAt(t *testing.T) {
	for _, at := range []string{"@0", "@9", "@10"} {
		k := "k=a,b" + at
		check(t, api.RolePrimary, 10,
			row{k, "SADD k a", ":1", "DEL k | SADD k a", "k=a"},
			row{k, "SREM k a", ":0", "DEL k", ""},
			row{k, "SISMEMBER k a", ":0", "DEL k", ""},
			row{k, "SMISMEMBER k a b", "[:0 :0]", "DEL k", ""},
			row{k, "SCARD k", ":0", "DEL k", ""},
			row{k, "SMEMBERS k", "[]", "DEL k", ""},
			row{k, "SPOP k", "nil", "DEL k", ""},
			row{k, "SPOP k 2", "[]", "DEL k", ""},
			row{k, "SRANDMEMBER k", "nil", "DEL k", ""},
			row{k, "SRANDMEMBER k -2", "[]", "DEL k", ""},
			row{k, "SMOVE k n a", ":0", "DEL k", ""},
			row{k + " n=a", "SMOVE n k a", ":1", "DEL k | SREM n a | SADD k a", "k=a"},
			row{k, "SUNION k", "[]", "DEL k", ""},
			row{k, "SUNIONSTORE n k", ":0", "DEL k", ""},
			row{k + " n=x", "SUNIONSTORE k n", ":1", "DEL k | SADD k x", "k=x n=x"},
			row{"k:list" + at, "SCARD k", ":0", "DEL k", ""},
			row{"k:list" + at, "SADD k y x", ":2", "DEL k | SADD k x y", "k=x,y"},
			row{"k:list" + at + " n=x", "SMOVE n k x", ":1", "DEL k | SREM n x | SADD k x", "k=x"},
		)
		for _, role := range []api.Role{api.RoleStream, 0, 4, -1, 257, math.MaxInt, math.MinInt} {
			check(t, role, 10,
				row{k, "SCARD k", ":2", "", "="},
				row{k, "SADD k x a", ":1", "SADD k x", "k=a,b,x" + at},
				row{k, "SREM k a", ":1", "SREM k a", "k=b" + at},
				row{k, "SPOP k", "$a", "SREM k a", "k=b" + at},
				row{k, "SPOP k 2", "[$a $b]", "SREM k a b", ""},
				row{k + " n=x", "SMOVE n k x", ":1", "SREM n x | SADD k x", "k=a,b,x" + at},
				row{k + " n=x@10", "SMOVE k n b", ":1", "SREM k b | SADD n b", "k=a" + at + " n=b,x@10"},
				row{k + " n=x", "SUNIONSTORE k n", ":1", "DEL k | SADD k x", "k=x n=x"},
				row{k, "SUNIONSTORE k k", ":2", "DEL k | SADD k a b", "k=a,b"},
				row{"k:list" + at, "SCARD k", "-WRONG", "", "="},
			)
		}
	}
	for _, role := range roles {
		check(t, role, 10, row{"k=a@11", "SCARD k", ":1", "", "="}, row{"k=a", "SCARD k", ":1", "", "="}, row{"k:list@11", "SCARD k", "-WRONG", "", "="})
	}
}

// A key that is over for a reader is not there, but stays; what is put there is new.
func TestAKeyThatIsOverForAReader(t *testing.T) {
	for _, k := range []string{"k=a,b@10", "k:hash@9", "k=x@0"} {
		check(t, api.RoleReader, 10,
			row{k, "SREM k a x", ":0", "", "="},
			row{k, "SISMEMBER k a", ":0", "", "="},
			row{k, "SMISMEMBER k a x", "[:0 :0]", "", "="},
			row{k, "SCARD k", ":0", "", "="},
			row{k, "SMEMBERS k", "[]", "", "="},
			row{k, "SPOP k", "nil", "", "="},
			row{k, "SPOP k 9", "[]", "", "="},
			row{k, "SRANDMEMBER k", "nil", "", "="},
			row{k, "SRANDMEMBER k -9", "[]", "", "="},
			row{k, "SMOVE k n a", ":0", "", "="},
			row{k, "SMOVE k k x", ":0", "", "="},
			row{k, "SUNION k k", "[]", "", "="},
			row{k, "SUNIONSTORE k k", ":0", "", "="},
			row{k, "SINTERSTORE k n m", ":0", "", "="},
			row{k, "SADD k y x", ":2", "SADD k x y", "k=x,y"},
			row{k, "SADD k b a", ":2", "SADD k a b", "k=a,b"},
			row{k + " n=p,q@11", "SMOVE n k q", ":1", "SREM n q | SADD k q", "k=q n=p@11"},
			row{k + " n=a", "SMOVE n k a", ":1", "SREM n a | SADD k a", "k=a"},
			row{k + " n=a,b@11", "SUNIONSTORE k n", ":2", "SADD k a b", "k=a,b n=a,b@11"},
			row{k + " n=p", "SUNIONSTORE n k", ":0", "DEL n", k},
		)
	}
}

// What looking tells comes first of all, beside errors, too, and of several keys in their order.
func TestWhatLookingTells(t *testing.T) {
	check(t, api.RolePrimary, 10,
		row{"k=a@9 n=q@9", "SMOVE k n a", ":0", "DEL k | DEL n", ""},
		row{"k=a@9 n=q@9", "SMOVE n k a", ":0", "DEL n | DEL k", ""},
		row{"k=a@9", "SMOVE k k a", ":0", "DEL k", ""},
		row{"k=a n=q@9", "SMOVE k n x", ":0", "DEL n", "k=a"},
		row{"k=a n=q@9", "SMOVE k n a", ":1", "DEL n | SREM k a | SADD n a", "n=a"},
		row{"k=a@9 n:list", "SMOVE k n a", "-WRONG", "DEL k", "n:list"},
		row{"k:list n=q@9", "SMOVE k n a", "-WRONG", "DEL n", "k:list"},
		row{"k=a@9 n:list", "SUNION k n", "-WRONG", "DEL k", "n:list"},
		row{"k=a@9 n:list", "SUNION n k", "-WRONG", "DEL k", "n:list"},
		row{"a=1@9 b=2@8 c=3@7", "SUNION c a b", "[]", "DEL c | DEL a | DEL b", ""},
		row{"a=1@9 b=2@8 c=3@7", "SINTER b a c", "[]", "DEL b | DEL a | DEL c", ""},
		row{"a=1@9 b=2@8 c=3@7", "SDIFF a b a c", "[]", "DEL a | DEL b | DEL c", ""},
		row{"a=1@9 b=2@8 c=3@7 d=4", "SINTER d a x b", "[]", "DEL a | DEL b", "c=3@7 d=4"},
		row{"a=1@9 b=2@8 c=3@7", "SUNIONSTORE a c b", ":0", "DEL c | DEL b | DEL a", ""},
		row{"a=1@9 b=2@8 c=3@7", "SINTERSTORE c b a", ":0", "DEL b | DEL a | DEL c", ""},
		row{"a=1@9 b=2@8 d:str", "SDIFFSTORE a d b", "-WRONG", "DEL b | DEL a", "d:str"},
		row{"a=1@9 b=2@8 d:str", "SDIFFSTORE a b d", "-WRONG", "DEL b | DEL a", "d:str"},
		// The key that is stored to is looked at last, but where it is one of the others.
		row{"a=1@9 b=2@8 c=3@7", "SUNIONSTORE a c a b", ":0", "DEL c | DEL a | DEL b", ""},
	)
	// What an error ahead of looking leaves.
	for _, args := range []string{"SPOP k 1 2", "SPOP k x y z", "SPOP k x", "SPOP k -1", "SRANDMEMBER k 1 2", "SRANDMEMBER k x", "SRANDMEMBER k -1025"} {
		r, told := sets.Do(load(t, entries("k=v@9 n=v@9")), api.Call{Role: api.RolePrimary, Now: 10, Args: words(args)})
		if r.Kind != api.RError || len(told) > 0 {
			t.Errorf("%s = %s, told %s; want an error ahead of looking", args, show(r), wroteTold(told))
		}
		newTrio(t, entries("k=v@9 n=v@9")).do(t, api.Call{Role: api.RolePrimary, Now: 10, Args: words(args)})
	}
}
