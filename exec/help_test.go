package exec_test

import (
	"slices"
	"strconv"
	"strings"
	"testing"

	"millpond/api"
	"millpond/exec"
	"millpond/hashes"
	"millpond/image"
	"millpond/keys"
	"millpond/lists"
	"millpond/sets"
	"millpond/space"
	"millpond/strs"
	"millpond/zsets"
)

// Short ways to write values, entries, calls and replies

const (
	tooBig   = "-ERR request is too big"
	readOnly = "-READONLY You can't write against a read only replica."
)

var (
	most = strings.Repeat("x", api.MaxBulk)
	over = most + "x"
)

// roles are all roles, and some numbers that are none of api's.
var roles = []api.Role{api.RolePrimary, api.RoleReader, api.RoleStream, 0, 4, -1}

// known is a command as chapter 11 has it; do: what its package does.
type known struct {
	arity  int
	writes bool
	do     func(*space.Space, api.Call) (api.Reply, [][]string)
}

// commands are the commands of chapters 12 to 17 by their names.
func commands() map[string]known {
	all := map[string]known{}
	for _, group := range []struct {
		do            func(*space.Space, api.Call) (api.Reply, [][]string)
		reads, writes string
	}{
		{strs.Do, "get 2 mget -2 strlen 2 getrange 4", "set -3 getset 3 getdel 2 setnx 3 setex 4 psetex 4 mset -3 msetnx -3 append 3 setrange 4 incr 2 decr 2 incrby 3 decrby 3"},
		{lists.Do, "llen 2 lrange 4 lindex 3", "lpush -3 rpush -3 lpushx -3 rpushx -3 lpop -2 rpop -2 lset 4 lrem 4 ltrim 4 linsert 5 rpoplpush 3 lmove 5"},
		{sets.Do, "sismember 3 smismember -3 scard 2 smembers 2 srandmember -2 sunion -2 sinter -2 sdiff -2", "sadd -3 srem -3 spop -2 smove 4 sunionstore -3 sinterstore -3 sdiffstore -3"},
		{zsets.Do, "zscore 3 zcard 2 zcount 4 zrange -4 zrevrange -4 zrangebyscore -4 zrank 3 zrevrank 3", "zadd -4 zrem -3 zincrby 4 zpopmin -2 zpopmax -2 zremrangebyrank 4 zremrangebyscore 4"},
		{hashes.Do, "hget 3 hmget -3 hexists 3 hlen 2 hkeys 2 hvals 2 hgetall 2 hstrlen 3", "hset -4 hsetnx 4 hdel -3 hincrby 4"},
		{keys.Do, "exists -2 type 2 ttl 2 pttl 2 keys 2 randomkey 1 dbsize 1", "del -2 expire 3 pexpire 3 expireat 3 pexpireat 3 persist 2 rename 3 renamenx 3 flushall 1"},
	} {
		for i, text := range []string{group.reads, group.writes} {
			for pair := range slices.Chunk(strings.Fields(text), 2) {
				arity, _ := strconv.Atoi(pair[1])
				all[pair[0]] = known{arity, i == 1, group.do}
			}
		}
	}
	return all
}

// ofServer are the commands of the server, and how many arguments each has at least, and at most.
var ofServer = map[string][2]int{"ping": {0, 1022}, "echo": {1, 1}, "wait": {2, 2}, "replicaof": {2, 2}, "replconf": {0, 1022}, "psync": {2, 2}, "role": {0, 0}, "quit": {0, 0}}

// names are the names of some commands, rising.
func names(which func(known) bool) []string {
	var l []string
	for name, c := range commands() {
		if which(c) {
			l = append(l, name)
		}
	}
	slices.Sort(l)
	return l
}

func writing(c known) bool { return c.writes }

func reading(c known) bool { return !c.writes }

func str(s string) api.Value { return api.Value{Kind: api.KString, S: s} }

func stay(k string, v api.Value) api.Entry { return api.Entry{Key: k, V: v, At: api.Never} }

func ends(k string, v api.Value, at int) api.Entry { return api.Entry{Key: k, V: v, At: at} }

// values are one of each kind, by their names.
var values = map[string]api.Value{
	"str":  str("v"),
	"list": {Kind: api.KList, L: []string{"b", "a"}},
	"set":  {Kind: api.KSet, L: []string{"a", "b"}},
	"zset": {Kind: api.KZset, Z: []api.Scored{{M: "b", N: 1}, {M: "a", N: 2}}},
	"hash": {Kind: api.KHash, H: []api.Field{{F: "a", V: "b"}}},
}

// entries are entries by their texts: `k=v`, or, of another kind, `k:list`; each that ends with `@` and the time behind it.
func entries(text string) []api.Entry {
	var l []api.Entry
	for _, word := range strings.Fields(text) {
		what, at, hasEnd := strings.Cut(word, "@")
		key, s, isText := strings.Cut(what, "=")
		e := stay(key, str(s))
		if !isText {
			key, kind, _ := strings.Cut(what, ":")
			e = stay(key, values[kind])
		}
		if hasEnd {
			e.At, _ = strconv.Atoi(at)
		}
		l = append(l, e)
	}
	return l
}

// words are the arguments of a text; two quotes are the empty one.
func words(text string) []string {
	l := strings.Fields(text)
	for i, word := range l {
		if word == "''" {
			l[i] = ""
		}
	}
	return l
}

// told are commands of a text, between which a `|` stands; where nothing stands there is none.
func told(text string) [][]string {
	var l [][]string
	for _, one := range strings.Split(text, "|") {
		if args := words(one); len(args) > 0 {
			l = append(l, args)
		}
	}
	return l
}

// by is a call by a role, at 10.
func by(role api.Role, args ...string) api.Call {
	return api.Call{Role: role, Now: 10, Draw: 7, Args: args}
}

// show is a reply as a text: `none`, `nil`, `nil array`, `+OK`, `-` and an error's text, `:5`, `$bulk`, `[$a nil]`.
func show(r api.Reply) string {
	switch r.Kind {
	case api.RSimple:
		return "+" + r.S + strange(r.N != 0 || len(r.L) > 0)
	case api.RError:
		return "-" + r.S + strange(r.N != 0 || len(r.L) > 0)
	case api.RInt:
		return ":" + strconv.FormatInt(r.N, 10) + strange(r.S != "" || len(r.L) > 0)
	case api.RBulk:
		return "$" + r.S + strange(r.N != 0 || len(r.L) > 0)
	case api.RArray:
		l := make([]string, len(r.L))
		for i := range l {
			l[i] = show(r.L[i])
		}
		return "[" + strings.Join(l, " ") + "]" + strange(r.S != "" || r.N != 0)
	case api.RNil:
		return "nil" + strange(r.S != "" || r.N != 0 || len(r.L) > 0)
	case api.RNilArray:
		return "nil array" + strange(r.S != "" || r.N != 0 || len(r.L) > 0)
	case 0:
		return "none" + strange(r.S != "" || r.N != 0 || len(r.L) > 0)
	}
	return "a reply of kind " + strconv.Itoa(int(r.Kind))
}

// strange marks a reply that has more than its kind says.
func strange(is bool) string {
	if is {
		return " and more"
	}
	return ""
}

// short is a text that a failing test can tell.
func short(s string) string {
	if len(s) > 300 {
		return s[:300] + ".."
	}
	return s
}

// wrote is an image as a text for a failing test.
func wrote(l []api.Entry) string {
	var b strings.Builder
	for i, e := range l {
		if i == 20 {
			return b.String() + " .."
		}
		b.WriteString(" " + strconv.Quote(short(e.Key)) + "=" + strconv.Quote(short(e.V.S)))
		if e.V.Kind != api.KString {
			b.WriteString("(kind " + strconv.Itoa(int(e.V.Kind)) + ")")
		}
		b.WriteString("@" + strconv.Itoa(e.At))
	}
	return b.String()
}

// ask is a call's text for a failing test.
func ask(c api.Call) string {
	return short(strconv.Quote(strings.Join(c.Args, " "))) + " by role " + strconv.Itoa(int(c.Role)) + " at " + strconv.Itoa(c.Now)
}

func sameTold(a, b [][]string) bool { return slices.EqualFunc(a, b, slices.Equal) }

func wroteTold(l [][]string) string {
	var b strings.Builder
	for _, command := range l {
		b.WriteString(strings.Join(command, " ") + " | ")
	}
	return short(strings.TrimSuffix(b.String(), " | "))
}

// load is a space of entries.
func load(t *testing.T, l []api.Entry) *space.Space {
	t.Helper()
	img, wrong := image.Canon(l...)
	s, e := space.Load(img)
	if wrong != api.OK || e != api.OK {
		t.Fatalf("Load of %s = %v, %v", wrote(l), wrong, e)
	}
	return s
}

// holds: has a space just these entries?
func holds(t *testing.T, done string, s *space.Space, want []api.Entry) {
	t.Helper()
	if got := s.Image(); !image.Same(got, want) {
		t.Fatalf("behind %s: the space has%s; want%s", done, wrote(got), wrote(want))
	}
}

// answers: does a call on a space answer so, tell nothing, and leave the space as it is?
func answers(t *testing.T, s *space.Space, c api.Call, want string) {
	t.Helper()
	before := s.Image()
	if r, told := exec.Do(s, c); show(r) != want || len(told) > 0 {
		t.Errorf("%s of%s = %s, told %s; want %s, told nothing", ask(c), wrote(before), short(show(r)), wroteTold(told), short(want))
	}
	if after := s.Image(); !image.Same(before, after) {
		t.Errorf("%s of%s leaves%s", ask(c), wrote(before), wrote(after))
	}
}

// mixed is a text in small and great letters by turns.
func mixed(s string) string {
	b := []byte(s)
	for i := 1; i < len(b); i += 2 {
		if b[i] >= 'a' && b[i] <= 'z' {
			b[i] -= 'a' - 'A'
		}
	}
	return string(b)
}

// inCases are a call's arguments with its name, which has small letters, as it is, in great letters, and in mixed ones.
func inCases(args []string) [][]string {
	var l [][]string
	for _, name := range []string{args[0], strings.ToUpper(args[0]), mixed(args[0])} {
		l = append(l, append([]string{name}, args[1:]...))
	}
	return l
}
