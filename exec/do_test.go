package exec_test

import (
	"slices"
	"strings"
	"testing"

	"millpond/api"
	"millpond/exec"
	"millpond/image"
	"millpond/space"
)

// filledUp are arguments with so many more of a text behind them that there are n.
func filledUp(n int, text string, args ...string) []string {
	return append(args, slices.Repeat([]string{text}, n-len(args))...)
}

// The chapter's example.
func TestExample(t *testing.T) {
	s := space.New()
	answers(t, s, by(api.RoleReader, "SET", "k", "v"), readOnly)
	answers(t, s, by(api.RolePrimary, "PING"), "+PONG")
	if n, e := exec.Apply(s, []string{"SET", "k", "v"}, []string{"DEL", "k"}); n != 2 || e != api.OK || s.Len() != 0 {
		t.Errorf("Apply = %d, %v, leaves %d", n, e, s.Len())
	}
	if n, e := exec.Apply(s, []string{"GET", "k"}); n != 0 || e != api.ErrStream {
		t.Errorf("Apply of GET k = %d, %v", n, e)
	}
}

// request is what a client may ask, and what each of P18.1's lines says of it: wrong: what Check tells; isBig; writes; else what is answered on a space with k=v alone, and told.
type request struct {
	args   []string
	wrong  string
	isBig  bool
	writes bool
	reply  string
	told   string
}

// requests are such that one of the lines applies, two, or none.
func requests() []request {
	name := strings.Repeat("set", 30000)
	return []request{
		{words("get k"), "", false, false, "$v", ""},
		{words("GET k"), "", false, false, "$v", ""},
		{words("SeT k w"), "", false, true, "+OK", "SET k w"},
		{words("lpush k a"), "", false, true, "-WRONGTYPE Operation against a key holding the wrong kind of value", ""},
		{words("llen k"), "", false, false, "-WRONGTYPE Operation against a key holding the wrong kind of value", ""},
		{words("incrby k x"), "", false, true, "-ERR value is not an integer or out of range", ""},
		{words("del x"), "", false, true, ":0", ""},
		{words("dbsize"), "", false, false, ":1", ""},
		{words("ping"), "", false, false, "+PONG", ""},
		{words("Echo x"), "", false, false, "$x", ""},
		{words("ping a b"), "", false, false, "-ERR wrong number of arguments for 'ping' command", ""},
		{words("wait 1 0"), "", false, false, "none", ""},
		{nil, "ERR unknown command ''", false, false, "", ""},
		{[]string{}, "ERR unknown command ''", false, false, "", ""},
		{words("''"), "ERR unknown command ''", false, false, "", ""},
		{words("nothing k"), "ERR unknown command 'nothing'", false, false, "", ""},
		{[]string{"g\x00t\r\n\x7f\xffK", "k"}, "ERR unknown command 'g.t....K'", false, false, "", ""},
		{[]string{"lin\u212A", "k"}, "ERR unknown command 'lin...'", false, false, "", ""},
		{[]string{"get ", "k"}, "ERR unknown command 'get '", false, false, "", ""},
		{words("GET"), "ERR wrong number of arguments for 'get' command", false, false, "", ""},
		{words("Set k"), "ERR wrong number of arguments for 'set' command", false, false, "", ""},
		{words("get k l"), "ERR wrong number of arguments for 'get' command", false, false, "", ""},
		{words("flushall k"), "ERR wrong number of arguments for 'flushall' command", false, false, "", ""},
		{words("echo"), "ERR wrong number of arguments for 'echo' command", false, false, "", ""},
		{words("quit now"), "ERR wrong number of arguments for 'quit' command", false, false, "", ""},
		{filledUp(1024, "k", "mget"), "", false, false, "[" + strings.TrimSuffix(strings.Repeat("$v ", 1023), " ") + "]", ""},
		{filledUp(1025, "k", "mget"), "", true, false, "", ""},
		{filledUp(1024, "k", "DEL"), "", false, true, ":1", "DEL k"},
		{filledUp(1025, "k", "DEL"), "", true, true, "", ""},
		{filledUp(1025, "k", "get"), "ERR wrong number of arguments for 'get' command", true, false, "", ""},
		{filledUp(1025, "k", "set"), "", true, true, "", ""},
		{filledUp(1025, "k", "nothing"), "ERR unknown command 'nothing'", true, false, "", ""},
		{filledUp(1024, "k", "ping"), "", false, false, "-ERR wrong number of arguments for 'ping' command", ""},
		{filledUp(1025, "k", "ping"), "", true, false, "", ""},
		{filledUp(1024, "k", "replconf"), "", false, false, "none", ""},
		{filledUp(1025, "k", "replconf"), "", true, false, "", ""},
		{filledUp(1025, "k", "quit"), "ERR wrong number of arguments for 'quit' command", true, false, "", ""},
		{[]string{"get", most}, "", false, false, "nil", ""},
		{[]string{"get", over}, "", true, false, "", ""},
		{[]string{"set", "k", most}, "", false, true, "+OK", "SET k " + most},
		{[]string{"set", "k", over}, "", true, true, "", ""},
		{[]string{"set", "k", "v", over}, "", true, true, "", ""},
		{[]string{"set", "k", "v", most}, "", false, true, "-ERR syntax error", ""},
		{[]string{"set", over}, "ERR wrong number of arguments for 'set' command", true, false, "", ""},
		{[]string{name[:65536], "k"}, "ERR unknown command '" + name[:128] + "'", false, false, "", ""},
		{[]string{name[:65537], "k"}, "ERR unknown command '" + name[:128] + "'", true, false, "", ""},
		{[]string{"echo", most}, "", false, false, "$" + most, ""},
		{[]string{"echo", over}, "", true, false, "", ""},
		{[]string{"ping", most}, "", false, false, "$" + most, ""},
		{[]string{"ping", over}, "", true, false, "", ""},
		{[]string{"ping", "k", over}, "", true, false, "", ""},
		{[]string{"psync", over, "0"}, "", true, false, "", ""},
		{[]string{"psync", most, "0"}, "", false, false, "none", ""},
		{[]string{"psync", over}, "ERR wrong number of arguments for 'psync' command", true, false, "", ""},
	}
}

// P18.1: each line alone, and all of them at once: the first one is the answer.
func TestFirstOfTheLines(t *testing.T) {
	before := entries("k=v")
	for _, x := range requests() {
		for _, made := range []string{"nil", "nobody made", "made"} {
			for _, role := range roles {
				for _, now := range []int{-1 << 63, -1, 0, 10, api.MaxTime, api.MaxTime + 1, 1<<63 - 1} {
					want, wantTold := x.reply, told(x.told)
					switch {
					case made != "made":
						want, wantTold = "none", nil
					case x.wrong != "":
						want, wantTold = "-"+x.wrong, nil
					case x.isBig || now < 0 || now > api.MaxTime:
						want, wantTold = tooBig, nil
					case x.writes && role == api.RoleReader:
						want, wantTold = readOnly, nil
					}
					s := map[string]*space.Space{"nil": nil, "nobody made": new(space.Space), "made": load(t, before)}[made]
					c := api.Call{Role: role, Now: now, Args: x.args}
					r, told := exec.Do(s, c)
					if show(r) != want || !sameTold(told, wantTold) {
						t.Fatalf("%s, of a space %s, = %s, told %s; want %s, told %s", ask(c), made, short(show(r)), wroteTold(told), short(want), wroteTold(wantTold))
					}
					if len(wantTold) == 0 && made == "made" {
						holds(t, ask(c), s, before)
					}
				}
			}
		}
	}
}

// P18.1: a reader is told READONLY of each command that writes, whatever stands there, and whatever else is wrong.
func TestReadOnly(t *testing.T) {
	t.Parallel()
	m := newMaker(1)
	var states [][]api.Entry
	for _, text := range []string{"", "a=v@10 b:list@9 c:set@0", "a=v@11 b:list@12"} {
		states = append(states, entries(text))
	}
	for kind := range values {
		states = append(states, entries("a:"+kind), entries("a:"+kind+"@10 b=v"), entries("a:"+kind+"@11 b:"+kind))
	}
	for _, form := range all() {
		name, _, _ := strings.Cut(form, " ")
		if !commands()[name].writes {
			continue
		}
		for _, l := range states {
			s := load(t, l)
			for range 4 {
				args := m.args(form)
				for _, args := range inCases(args) {
					if r, told := exec.Do(s, by(api.RoleReader, args...)); show(r) != readOnly || len(told) > 0 {
						t.Errorf("%q of%s by a reader = %s, told %s", args, wrote(l), show(r), wroteTold(told))
					}
				}
			}
			holds(t, form, s, load(t, l).Image())
		}
	}
	for _, name := range names(writing) { // arguments as many as may be
		if commands()[name].arity < 0 {
			answers(t, load(t, nil), by(api.RoleReader, filledUp(1024, "", name)...), readOnly)
			answers(t, load(t, nil), by(api.RoleReader, filledUp(1025, "", name)...), tooBig)
		}
	}
}

// P18.1: how many arguments each command has, and of how many too big a request is told; each group has its own.
func TestArities(t *testing.T) {
	t.Parallel()
	all := commands()
	for name, n := range ofServer {
		c := known{arity: n[0] + 1}
		if n[1] > n[0] {
			c.arity = -c.arity
		}
		all[name] = c
	}
	if len(all) != 99 {
		t.Fatalf("there are %d commands", len(all))
	}
	for name, c := range all {
		for n := range 8 {
			for _, args := range inCases(filledUp(n+1, "a", name)) {
				r, _ := exec.Do(space.New(), by(api.RolePrimary, args...))
				wrong := show(r) == "-ERR wrong number of arguments for '"+name+"' command"
				want := n+1 != c.arity && c.arity > 0 || n+1 < -c.arity
				switch name { // these tell it also of what their arity lets pass
				case "mset", "msetnx", "hset", "ping", "lpop", "rpop":
					if wrong && !want {
						continue
					}
				}
				if wrong != want {
					t.Errorf("%q = %s", args, show(r))
				}
			}
		}
	}
}

// P18.1: a command of chapters 12 to 17 is done as its package does it, by each role, its name in any letters.
func TestAsItsPackage(t *testing.T) {
	t.Parallel()
	m := newMaker(2)
	for _, form := range all() {
		name, _, _ := strings.Cut(form, " ")
		its := commands()[name]
		for range 40 {
			l, args := m.entries(), m.args(form)
			for _, role := range roles {
				if its.writes && role == api.RoleReader {
					continue
				}
				for _, args := range inCases(args) {
					s, other := load(t, l), load(t, l)
					c := api.Call{Role: role, Now: m.IntN(25), Draw: m.Uint64(), Args: args}
					r, told := exec.Do(s, c)
					want, wantTold := its.do(other, c)
					if show(r) != show(want) || !sameTold(told, wantTold) || r.Kind == 0 {
						t.Fatalf("%s of%s = %s, told %s; want %s, told %s", ask(c), wrote(l), show(r), wroteTold(told), show(want), wroteTold(wantTold))
					}
					holds(t, ask(c), s, other.Image())
				}
			}
		}
	}
}

// P18.1: commands that only read, by a reader: what it sees is told; what is over stays, and is not seen.
func TestReadersRead(t *testing.T) {
	l := entries("a=v b:list c:set d:zset e:hash o=w@10 p:list@3")
	there := map[string]bool{}
	for args, want := range map[string]string{
		"get a": "$v", "MGET a b o x": "[$v nil nil nil]", "strlen a": ":1", "getrange a 0 -1": "$v", "llen b": ":2", "LRange b 0 -1": "[$b $a]", "lindex b 0": "$b",
		"sismember c a": ":1", "smismember c a x": "[:1 :0]", "scard c": ":2", "smembers c": "[$a $b]", "srandmember c": "$b", "sunion c p": "[$a $b]", "sinter c c": "[$a $b]", "sdiff c c": "[]",
		"zscore d a": "$2", "zcard d": ":2", "zcount d 1 1": ":1", "zrange d 0 -1": "[$b $a]", "zrevrange d 0 0": "[$a]", "zrangebyscore d 2 2": "[$a]", "zrank d a": ":1", "zrevrank d a": ":0",
		"hget e a": "$b", "hmget e a x": "[$b nil]", "hexists e a": ":1", "hlen e": ":1", "hkeys e": "[$a]", "hvals e": "[$b]", "hgetall e": "[$a $b]", "hstrlen e a": ":1",
		"exists a o x a": ":2", "type c": "+set", "TYPE o": "+none", "ttl a": ":-1", "pttl o": ":-2", "keys *": "[$a $b $c $d $e]", "randomkey": "$a", "dbsize": ":7",
		"get o": "nil", "llen p": ":0", "get b": "-WRONGTYPE Operation against a key holding the wrong kind of value",
	} {
		answers(t, load(t, l), by(api.RoleReader, words(args)...), want)
		there[strings.ToLower(words(args)[0])] = true
	}
	for _, name := range names(reading) {
		if !there[name] {
			t.Errorf("%s was not asked", name)
		}
	}
}

// P18.1: what is over, and what is told of it, by each role.
func TestWhatIsOver(t *testing.T) {
	for _, x := range []struct {
		role              api.Role
		args, reply, told string
		left              string
	}{
		{api.RolePrimary, "get o", "nil", "DEL o", "k=v"},
		{api.RoleReader, "get o", "nil", "", "k=v o=w@10"},
		{api.RoleStream, "get o", "$w", "", "k=v o=w@10"},
		{0, "get o", "$w", "", "k=v o=w@10"},
		{api.RolePrimary, "append o x", ":1", "DEL o | APPEND o x", "k=v o=x"},
		{api.RoleReader, "append o x", readOnly, "", "k=v o=w@10"},
		{api.RoleStream, "append o x", ":2", "APPEND o x", "k=v o=wx@10"},
		{4, "append o x", ":2", "APPEND o x", "k=v o=wx@10"},
		{api.RolePrimary, "lpush o k", ":1", "DEL o | LPUSH o k", "k=v o:k"},
		{api.RolePrimary, "rename o k", "-ERR no such key", "DEL o", "k=v"},
		{api.RolePrimary, "sunion o k", "-WRONGTYPE Operation against a key holding the wrong kind of value", "DEL o", "k=v"},
		{api.RolePrimary, "ping o", "$o", "", "k=v o=w@10"},
		{api.RolePrimary, "get", "-ERR wrong number of arguments for 'get' command", "", "k=v o=w@10"},
	} {
		s := load(t, entries("k=v o=w@10"))
		r, got := exec.Do(s, by(x.role, words(x.args)...))
		if show(r) != x.reply || !sameTold(got, told(x.told)) {
			t.Errorf("%s by role %d = %s, told %s", x.args, x.role, show(r), wroteTold(got))
		}
		if x.left == "k=v o:k" {
			x.left = "k=v"
			if v, _ := s.Look("o"); v.V.Kind != api.KList || !s.Del("o") {
				t.Errorf("behind %s o is %v", x.args, v)
			}
		}
		if got := s.Image(); !image.Same(got, entries(x.left)) {
			t.Errorf("%s by role %d leaves%s", x.args, x.role, wrote(got))
		}
	}
}
