package keys_test

import (
	"math"
	"slices"
	"strconv"
	"strings"
	"testing"

	"millpond/api"
	"millpond/command"
	"millpond/keys"
	"millpond/space"
)

// The example

func TestTheExample(t *testing.T) {
	s := load(t, entries("k=v"))
	for _, x := range []struct {
		now                      int
		args, reply, told, after string
	}{
		{10, "EXPIRE k 2", ":1", "PEXPIREAT k 2010", "k=v@2010"},
		{511, "TTL k", ":1", "", "k=v@2010"},
		{511, "PTTL k", ":1499", "", "k=v@2010"},
		{10, "EXPIRE k -1", ":1", "DEL k", ""},
	} {
		r, got := keys.Do(s, api.Call{Role: api.RolePrimary, Now: x.now, Args: words(x.args)})
		if show(r) != x.reply || !sameTold(got, told(x.told)) {
			t.Errorf("%s = %s, told %s", x.args, show(r), wroteTold(got))
		}
		holds(t, x.args, s, entries(x.after))
	}
}

// Calls that are none of the package's

// none: a call on a space answers nothing, and changes nothing.
func none(t *testing.T, name string, s *space.Space, c api.Call) {
	t.Helper()
	before := s.Image()
	if r, told := keys.Do(s, c); show(r) != "none" || told != nil {
		t.Errorf("%s: %.50q = %s, told %s", name, c.Args, short(show(r)), wroteTold(told))
	}
	holds(t, name, s, before)
}

// some is a store with a key that is over, told as soon as it is looked at.
const some = "k=a l:list o=v@3 s:set@99"

// each has for every command one way to call it that does something on some.
var each = []string{
	"del k", "exists o", "type o", "expire k 5", "pexpire k 5", "expireat k 5", "pexpireat k 5", "ttl o", "pttl o", "persist s", "rename k o", "renamenx k o", "keys *", "randomkey", "dbsize", "flushall",
}

// wrongs are calls that answer an error, or have more than one form.
var wrongs = []string{
	"del k l o s", "exists k l o s", "type n", "expire o x", "pexpire o x", "expireat o x", "pexpireat o x", "expire k 1099511627777", "pexpire k 1099511627777", "expireat k 1099511627777", "pexpireat k 1099511627777", "pexpireat k 98", "pexpireat s 99", "expire o 5", "expire k -5", "ttl k", "pttl s", "persist o",
	"rename n k", "rename o k", "rename k k", "rename k s", "rename s n", "renamenx n k", "renamenx k k", "renamenx k s", "renamenx s n", "keys o", "keys x*",
}

func TestASpaceThatNoCallMade(t *testing.T) {
	made := load(t, entries(some))
	copied := *made
	for name, s := range map[string]*space.Space{"nil": nil, "the zero Space": {}, "a copy": &copied} {
		for _, args := range append(wrongs, each...) {
			for _, role := range roles {
				none(t, name, s, api.Call{Role: role, Now: 9, Args: words(args)})
			}
		}
	}
	holds(t, "calls on its copy", made, entries(some))
}

func TestEachCommandIsTheTables(t *testing.T) {
	var names []string
	for _, args := range each {
		names = append(names, words(args)[0])
	}
	for _, s := range command.All() {
		if slices.Contains(names, s.Name) != (s.Group == api.GKey) {
			t.Errorf("each has %s: %t", s.Name, s.Group != api.GKey)
		}
	}
	if len(names) != 16 || len(arities) != 16 {
		t.Errorf("each has %d commands, arities %d", len(names), len(arities))
	}
}

func TestCallsThatAreNoneOfThePackages(t *testing.T) {
	s := load(t, entries(some))
	for _, role := range roles {
		c := api.Call{Role: role, Now: 9}
		for name, args := range map[string][]string{
			"no arguments": nil, "an empty list": {}, "an empty name": {""}, "an empty name and a key": {"", "o"}, "an unknown name": {"exist", "o"}, "a name and a blank": {"ttl ", "o"}, "a key for a name": {"o", "ttl"},
			"a foreign letter": {"t\u0165l", "o"}, "a letter that Go makes small": {"\u212aeys", "*"}, "another one": {"per\u017fist", "s"}, "a name of no group": {"touch", "o"}, "a long name": {over, "o"}, "unlink": {"UNLINK", "o"}, "flushdb": {"FLUSHDB"},
		} {
			c.Args = args
			none(t, name, s, c)
		}
		for _, spec := range command.All() {
			if spec.Group != api.GKey {
				for _, name := range []string{spec.Name, strings.ToUpper(spec.Name)} {
					c.Args = append([]string{name}, slices.Repeat([]string{"o"}, max(spec.Arity, -spec.Arity)-1)...)
					none(t, "another group", s, c)
				}
			}
		}
	}
}

// As many arguments as a command has, by its row in the table, and no others.
func TestNumbersOfArguments(t *testing.T) {
	for name, arity := range arities {
		for n := range 12 {
			c := api.Call{Role: api.RolePrimary, Now: 9, Args: append([]string{name}, slices.Repeat([]string{"o"}, n)...)}
			s := load(t, entries(some))
			if n+1 == arity || arity < 0 && n+1 >= -arity {
				if r, _ := keys.Do(s, c); show(r) == "none" {
					t.Errorf("%s with %d arguments = none", name, n)
				}
			} else {
				none(t, "too few or too many", s, c)
			}
		}
	}
}

func TestAsManyArgumentsAsMayBe(t *testing.T) {
	texts := make([]string, 2000)
	for i := range texts {
		texts[i] = strconv.Itoa(i)
	}
	const before = "0=v 1=v@3 999:list 1022=v 1023=v"
	for name := range arities {
		for _, n := range []int{1023, 1024, 1025, 2000} {
			s := load(t, entries(before))
			c := api.Call{Role: api.RolePrimary, Now: 9, Args: append([]string{name}, texts[:n-1]...)}
			if n > 1024 || arities[name] > 0 {
				none(t, "too many", s, c)
				continue
			}
			newTrio(t, entries(before)).do(t, c)
			if r, _ := keys.Do(s, c); show(r) != ":"+strconv.Itoa(n-1021) { // 1023 arguments have one text less than 1024
				t.Errorf("%s of %d arguments = %s", name, n, show(r))
			}
		}
	}
}

func TestLongArguments(t *testing.T) {
	for _, args := range append(wrongs, each...) {
		l := words(args)
		for i := 1; i < len(l); i++ {
			long := slices.Clone(l)
			long[i] = over
			s := load(t, entries(some))
			none(t, "too long", s, api.Call{Role: api.RolePrimary, Now: 9, Args: long})
			long[i] = most
			newTrio(t, entries(some)).do(t, api.Call{Role: api.RolePrimary, Now: 9, Args: long})
			if r, _ := keys.Do(s, api.Call{Role: api.RolePrimary, Now: 9, Args: long}); show(r) == "none" {
				t.Errorf("%s with a long argument at %d = none", args, i)
			}
		}
	}
	s := load(t, []api.Entry{ends(most, str("v"), 99)})
	for _, x := range []struct{ args, reply, told string }{
		{"EXISTS K K", ":2", ""}, {"TYPE K", "+string", ""}, {"PTTL K", ":90", ""}, {"PERSIST K", ":1", "PERSIST K"}, {"PEXPIRE K 5", ":1", "PEXPIREAT K 14"}, {"KEYS K", "[$K]", ""}, {"KEYS *K*", "[$K]", ""}, {"RANDOMKEY", "$K", ""}, {"RENAME K n", "+OK", "RENAME K n"}, {"RENAME n K", "+OK", "RENAME n K"}, {"RENAMENX K n", ":1", "RENAME K n"}, {"RENAMENX n K", ":1", "RENAME n K"}, {"DEL K", ":1", "DEL K"},
	} {
		long := func(text string) string {
			return strings.Replace(strings.Replace(text, " K", " "+most, -1), "$K", "$"+most, -1)
		}
		args := words(x.args)
		for i := range args[1:] {
			args[i+1] = strings.ReplaceAll(args[i+1], "K", most)
		}
		if x.args == "KEYS *K*" {
			args[1] = "*" + most[2:] + "*"
		}
		r, got := keys.Do(s, api.Call{Role: api.RolePrimary, Now: 9, Args: args})
		if show(r) != strings.Replace(x.reply, "$K", "$"+most, 1) || !sameTold(got, told(long(x.told))) {
			t.Errorf("%s = %s, told %s", x.args, short(show(r)), wroteTold(got))
		}
	}
}

func TestTimesOfCalls(t *testing.T) {
	for _, args := range append(wrongs, each...) {
		for _, role := range roles {
			for _, now := range []int{math.MinInt, -1 << 40, -2, -1, 1<<40 + 1, 1<<40 + 2, math.MaxInt} {
				none(t, "a time that may not be", load(t, entries(some)), api.Call{Role: role, Now: now, Args: words(args)})
			}
			for _, now := range []int{0, 1, 1<<40 - 1, 1 << 40} {
				c := api.Call{Role: role, Now: now, Args: words(args)}
				newTrio(t, entries(some)).do(t, c)
				if r, _ := keys.Do(load(t, entries(some)), c); show(r) == "none" {
					t.Errorf("%s at %d = none", args, now)
				}
			}
		}
	}
}

// All commands

// states are what may stand at the key k ahead of a call at 10.
func states() []string {
	l := []string{""}
	for _, v := range []string{"k=v", "k=", "k:list", "k:set", "k:zset", "k:hash"} {
		for _, end := range []string{"", "@0", "@9", "@10", "@11", "@2010", "@1099511627776"} {
			l = append(l, v+end)
		}
	}
	return l
}

// calls are calls of all commands, on the key k, on n, which may be there, too, and on m, which never is.
var calls = []string{
	"del k", "del k k", "del n k", "del k n k m", "del m", "del m k", "exists k", "exists k k", "exists n k n", "exists m", "exists m k m k", "type k", "type n", "type m",
	"expire k 2", "expire k 0", "expire k -1", "expire k x", "expire k 1099511627", "expire k 1099511628", "expire k 1099511627777", "expire m 2", "expire m x",
	"pexpire k 1", "pexpire k 0", "pexpire k -1", "pexpire k 2000", "pexpire k x", "pexpire k 1099511627766", "pexpire k 1099511627767", "pexpire m 1", "pexpire n 2",
	"expireat k 0", "expireat k 1", "expireat k 2", "expireat k -1", "expireat k 01", "expireat k 1099511627", "expireat k 1099511628", "expireat m 5", "expireat n 5",
	"pexpireat k 0", "pexpireat k 9", "pexpireat k 10", "pexpireat k 11", "pexpireat k 12", "pexpireat k 2010", "pexpireat k -5", "pexpireat k ''", "pexpireat k 1099511627776", "pexpireat k 1099511627777", "pexpireat m 12",
	"ttl k", "ttl m", "ttl n", "pttl k", "pttl m", "pttl n", "persist k", "persist m", "persist n",
	"rename k n", "rename n k", "rename k k", "rename k m", "rename m k", "rename m m", "renamenx k n", "renamenx n k", "renamenx k k", "renamenx k m", "renamenx m k", "renamenx m m",
	"keys *", "keys k", "keys ?", "keys [^k]", "keys m", "randomkey", "dbsize", "flushall",
}

// mixed is a text with its letters great and small by turns.
func mixed(s string) string {
	b := []byte(s)
	for i := range b {
		if b[i] >= 'a' && b[i] <= 'z' && i%2 == 0 {
			b[i] -= 'a' - 'A'
		}
	}
	return string(b)
}

// inCase is a call with its name in another case.
func inCase(args []string, other func(string) string) []string {
	l := slices.Clone(args)
	l[0] = other(l[0])
	return l
}

// Each call by each role on each state of its key, its name in any case, and what is told done on another space.
func TestEachCallByEachRoleOnEachState(t *testing.T) {
	t.Parallel()
	for _, state := range states() {
		for _, n := range []string{"", " n=w", " n:hash@11", " n:list@10", " n=@9 p=x"} {
			for _, text := range calls {
				for i, role := range roles {
					args := words(text)
					newTrio(t, entries(state+n)).do(t, api.Call{Role: role, Now: 10, Draw: uint64(i + len(state)), Args: args})
					if role > 3 || role < 1 {
						continue
					}
					newTrio(t, entries(state+n)).do(t, api.Call{Role: role, Now: 10, Args: inCase(args, strings.ToUpper)})
					newTrio(t, entries(state+n)).do(t, api.Call{Role: role, Now: 10, Args: inCase(args, mixed)})
				}
			}
		}
	}
}

// What is over by the call's time, for whom.
func TestHowAKeyIsLookedAt(t *testing.T) {
	for _, at := range []string{"@0", "@9", "@10"} {
		k := "k=v" + at
		check(t, api.RolePrimary, 10,
			row{k, "DEL k", ":0", "DEL k", ""},
			row{k, "DEL k k", ":0", "DEL k", ""},
			row{k, "EXISTS k", ":0", "DEL k", ""},
			row{k, "EXISTS k k k", ":0", "DEL k", ""},
			row{k, "TYPE k", "+none", "DEL k", ""},
			row{k, "EXPIRE k 2", ":0", "DEL k", ""},
			row{k, "PEXPIRE k 2", ":0", "DEL k", ""},
			row{k, "EXPIREAT k 2", ":0", "DEL k", ""},
			row{k, "PEXPIREAT k 2000", ":0", "DEL k", ""},
			row{k, "PEXPIREAT k 0", ":0", "DEL k", ""},
			row{k, "TTL k", ":-2", "DEL k", ""},
			row{k, "PTTL k", ":-2", "DEL k", ""},
			row{k, "PERSIST k", ":0", "DEL k", ""},
			row{k, "RENAME k n", "-NOKEY", "DEL k", ""},
			row{k, "RENAME k k", "-NOKEY", "DEL k", ""},
			row{k, "RENAMENX k n", "-NOKEY", "DEL k", ""},
			row{k, "RENAMENX k k", "-NOKEY", "DEL k", ""},
			row{k + " o=w", "RENAME o k", "+OK", "DEL k | RENAME o k", "k=w"},
			row{k + " o=w", "RENAMENX o k", ":1", "DEL k | RENAME o k", "k=w"},
			row{k + " o=w" + at, "RENAME o k", "-NOKEY", "DEL o", k},
			row{k + " o=w" + at, "RENAMENX o k", "-NOKEY", "DEL o", k},
			row{k, "KEYS *", "[]", "", "="},
			row{k, "DBSIZE", ":1", "", "="},
			row{k, "RANDOMKEY", "nil", "DEL k", ""},
			row{k, "FLUSHALL", "+OK", "FLUSHALL", ""},
		)
		check(t, api.RoleReader, 10,
			row{k, "DEL k k", ":0", "", "="},
			row{k, "EXISTS k k", ":0", "", "="},
			row{k, "TYPE k", "+none", "", "="},
			row{k, "EXPIRE k 2", ":0", "", "="},
			row{k, "PEXPIREAT k 0", ":0", "", "="},
			row{k, "TTL k", ":-2", "", "="},
			row{k, "PTTL k", ":-2", "", "="},
			row{k, "PERSIST k", ":0", "", "="},
			row{k, "RENAME k n", "-NOKEY", "", "="},
			row{k, "RENAMENX k k", "-NOKEY", "", "="},
			row{k + " o=w", "RENAME o k", "+OK", "RENAME o k", "k=w"},
			row{k + " o:set@11", "RENAMENX o k", ":1", "RENAME o k", "k:set@11"},
			row{k, "KEYS *", "[]", "", "="},
			row{k, "DBSIZE", ":1", "", "="},
			row{k, "RANDOMKEY", "nil", "", "="},
			row{k, "FLUSHALL", "+OK", "FLUSHALL", ""},
		)
		for _, role := range []api.Role{api.RoleStream, 0, 4, -1, 257, math.MaxInt, math.MinInt} {
			check(t, role, 10,
				row{k, "DEL k k", ":1", "DEL k", ""},
				row{k, "EXISTS k k", ":2", "", "="},
				row{k, "TYPE k", "+string", "", "="},
				row{k, "PEXPIREAT k 2000", ":1", "PEXPIREAT k 2000", "k=v@2000"},
				row{k, "TTL k", ":0", "", "="},
				row{k, "PTTL k", ":0", "", "="},
				row{k, "PERSIST k", ":1", "PERSIST k", "k=v"},
				row{k, "RENAME k n", "+OK", "RENAME k n", "n=v" + at},
				row{k, "RENAME k k", "+OK", "", "="},
				row{k, "RENAMENX k k", ":0", "", "="},
				row{k + " o=w", "RENAME o k", "+OK", "RENAME o k", "k=w"},
				row{k + " o=w", "RENAMENX o k", ":0", "", "="},
				row{k, "KEYS *", "[$k]", "", "="},
				row{k, "RANDOMKEY", "$k", "", "="},
				row{k, "DBSIZE", ":1", "", "="},
				row{k, "FLUSHALL", "+OK", "FLUSHALL", ""},
			)
		}
	}
	for _, role := range roles {
		check(t, role, 10, row{"k=a@11", "EXISTS k", ":1", "", "="}, row{"k=a", "TYPE k", "+string", "", "="}, row{"k:set@11", "KEYS *", "[$k]", "", "="}, row{"k:set@11", "RANDOMKEY", "$k", "", "="})
	}
}

// What an error ahead of looking leaves, and what is told beside one behind it.
func TestWhatErrorsLeave(t *testing.T) {
	for _, name := range []string{"EXPIRE", "PEXPIRE", "EXPIREAT", "PEXPIREAT"} {
		for _, k := range []string{"k=v@9", "k:list@10", "k=v", "k=v@11", ""} {
			check(t, api.RolePrimary, 10,
				row{k, name + " k x", "-NUMBER", "", "="}, row{k, name + " k ''", "-NUMBER", "", "="}, row{k, name + " k 9223372036854775808", "-NUMBER", "", "="},
				row{k, name + " k 9223372036854775807", "-TIME", "", "="}, row{k, name + " k -1099511627777", "-TIME", "", "="}, row{k, name + " k 1099511627777", "-TIME", "", "="},
			)
		}
	}
	for _, name := range []string{"RENAME", "RENAMENX"} {
		check(t, api.RolePrimary, 10,
			row{"k=v@9 o=w@9 n=x", name + " k o", "-NOKEY", "DEL k", "o=w@9 n=x"}, row{"o=w@9 n=x", name + " k o", "-NOKEY", "", "="}, row{"k=v@9 o=w@9 n=x", name + " k k", "-NOKEY", "DEL k", "o=w@9 n=x"},
		)
	}
}
