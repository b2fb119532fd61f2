package strs_test

import (
	"fmt"
	"testing"

	"millpond/api"
	"millpond/image"
	"millpond/space"
	"millpond/strs"
)

// filled is a space with so many keys: some that are named here, and numbers of six digits.
func filled(t *testing.T, n int, named string) *space.Space {
	t.Helper()
	l := entries(named)
	for i := range n - len(l) {
		l = append(l, stay(fmt.Sprintf("%06d", i), str("v")))
	}
	return load(t, l)
}

// stands: does a key stand in a space just as entries tell, or not, if they do not tell of it?
func stands(t *testing.T, done string, s *space.Space, key string, l []api.Entry) {
	t.Helper()
	want, there := image.Find(l, key)
	if got, ok := s.Look(key); ok != there || !image.Same([]api.Entry{got}, []api.Entry{want}) {
		t.Errorf("behind %s: Look of %s = %v, %t; want %v", done, key, got, ok, want)
	}
}

// names are the keys of these tests, beside the numbers.
const names = "a b c e f k l n m o"

// checkFilled does the calls of rows on one space, one behind the other: before is how many keys there are then; of those that have names the rest tells.
func checkFilled(t *testing.T, s *space.Space, role api.Role, rows ...row) {
	t.Helper()
	for _, x := range rows {
		args := words(x.args)
		if got := fmt.Sprint(s.Len()); got != x.before {
			t.Errorf("ahead of %s there are %s keys; want %s", x.args, got, x.before)
		}
		was := map[string]api.Entry{}
		for _, key := range words(names) {
			if e, there := s.Look(key); there {
				was[key] = e
			}
		}
		r, got := strs.Do(s, api.Call{Role: role, Now: 10, Args: args})
		if show(r) != reply(x.reply, args[0]) || !sameTold(got, told(x.told)) {
			t.Errorf("%s, of %s keys, = %s, told %s; want %s, told %s", x.args, x.before, show(r), wroteTold(got), x.reply, x.told)
		}
		for _, key := range words(names) {
			l := entries(x.after)
			if x.after == "=" {
				l = []api.Entry{was[key]}
			}
			stands(t, x.args, s, key, l)
		}
	}
}

// On a full store: what is there may be another, what is new may not be, and that is found last.
func TestAFullStore(t *testing.T) {
	const k = "k=5 l:list"
	checkFilled(t, filled(t, api.MaxKeys, k), api.RolePrimary,
		row{"65536", "SET n v", "-FULL", "", k}, row{"65536", "SET n v NX", "-FULL", "", k}, row{"65536", "SET n v GET", "-FULL", "", k}, row{"65536", "SET n v EX 5", "-FULL", "", k}, row{"65536", "SET n v KEEPTTL NX GET", "-FULL", "", k}, row{"65536", "SET n v XX", "nil", "", k}, row{"65536", "SET n v XX GET", "nil", "", k},
		row{"65536", "SET n v FOO", "-SYNTAX", "", k}, row{"65536", "SET n v EX x", "-NUMBER", "", k}, row{"65536", "SET n v EX 0", "-TIME", "", k}, row{"65536", "SET l v GET", "-WRONG", "", k},
		row{"65536", "GETSET n v", "-FULL", "", k}, row{"65536", "GETSET l v", "-WRONG", "", k}, row{"65536", "GETDEL n", "nil", "", k}, row{"65536", "SETNX n v", "-FULL", "", k}, row{"65536", "SETNX k v", ":0", "", k},
		row{"65536", "SETEX n 5 v", "-FULL", "", k}, row{"65536", "SETEX n x v", "-NUMBER", "", k}, row{"65536", "SETEX n 0 v", "-TIME", "", k}, row{"65536", "PSETEX n 5 v", "-FULL", "", k}, row{"65536", "PSETEX n -1 v", "-TIME", "", k},
		row{"65536", "MSET n v", "-FULL", "", k}, row{"65536", "MSET n v n w", "-FULL", "", k}, row{"65536", "MSET k 6 n v", "-FULL", "", k}, row{"65536", "MSET n v k 6", "-FULL", "", k}, row{"65536", "MSET k 6 l 7 n 8 k 9", "-FULL", "", k}, row{"65536", "MSET n v m", "-ARGS", "", k},
		row{"65536", "MSETNX n v", "-FULL", "", k}, row{"65536", "MSETNX n v m v", "-FULL", "", k}, row{"65536", "MSETNX n v k v", ":0", "", k}, row{"65536", "MSETNX k v n v", ":0", "", k}, row{"65536", "MSETNX n v m", "-ARGS", "", k},
		row{"65536", "APPEND n v", "-FULL", "", k}, row{"65536", "APPEND n ''", "-FULL", "", k}, row{"65536", "APPEND l v", "-WRONG", "", k},
		row{"65536", "SETRANGE n 0 v", "-FULL", "", k}, row{"65536", "SETRANGE n 65535 v", "-FULL", "", k}, row{"65536", "SETRANGE n 65536 v", "-LONG", "", k}, row{"65536", "SETRANGE n 0 ''", ":0", "", k}, row{"65536", "SETRANGE n -1 v", "-OFFSET", "", k}, row{"65536", "SETRANGE n x v", "-NUMBER", "", k}, row{"65536", "SETRANGE l 0 v", "-WRONG", "", k},
		row{"65536", "INCR n", "-FULL", "", k}, row{"65536", "DECR n", "-FULL", "", k}, row{"65536", "INCRBY n 0", "-FULL", "", k}, row{"65536", "DECRBY n 5", "-FULL", "", k}, row{"65536", "DECRBY n -9223372036854775808", "-OVER", "", k}, row{"65536", "INCRBY n x", "-NUMBER", "", k}, row{"65536", "INCR l", "-WRONG", "", k},
		row{"65536", "GET n", "nil", "", k}, row{"65536", "MGET n k", "[nil $5]", "", k}, row{"65536", "STRLEN n", ":0", "", k}, row{"65536", "GETRANGE n 0 1", "$", "", k},
		// What is there may be another.
		row{"65536", "SET k v EX 5", "+OK", "SET k v PXAT 5010", "k=v@5010 l:list"}, row{"65536", "GETSET k 1", "$v", "SET k 1", "k=1 l:list"}, row{"65536", "INCR k", ":2", "SET k 2", "k=2 l:list"}, row{"65536", "APPEND k x", ":2", "APPEND k x", "k=2x l:list"}, row{"65536", "SETRANGE k 1 yz", ":3", "SETRANGE k 1 yz", "k=2yz l:list"}, row{"65536", "PSETEX k 5 v", "+OK", "SET k v PXAT 15", "k=v@15 l:list"},
		row{"65536", "MSET k 3 l 4 000007 5", "+OK", "MSET k 3 l 4 000007 5", "k=3 l=4"}, row{"65536", "MSET k 3 l 4", "+OK", "", "="},
		row{"65536", "GETDEL k", "$3", "DEL k", "l=4"}, row{"65535", "MSETNX n 1 n 2", ":1", "MSET n 1 n 2", "l=4 n=2"}, row{"65536", "SET k v", "-FULL", "", "="},
	)
}

// The last free key, and one behind it.
func TestTheLastFreeKey(t *testing.T) {
	for _, x := range []struct{ args, reply, told, value string }{
		{"SET n v", "+OK", "SET n v", "v"}, {"SET n v NX GET", "nil", "SET n v", "v"}, {"GETSET n v", "nil", "SET n v", "v"}, {"SETNX n v", ":1", "SET n v", "v"}, {"MSET n v", "+OK", "MSET n v", "v"}, {"MSET k 5 n v n w", "+OK", "MSET k 5 n v n w", "w"}, {"MSETNX n v", ":1", "MSET n v", "v"}, {"MSETNX n v n w", ":1", "MSET n v n w", "w"},
		{"APPEND n v", ":1", "APPEND n v", "v"}, {"APPEND n ''", ":0", "APPEND n ''", ""}, {"SETRANGE n 0 v", ":1", "SETRANGE n 0 v", "v"}, {"INCR n", ":1", "SET n 1", "1"}, {"DECRBY n 0", ":0", "SET n 0", "0"}, {"SETEX n 5 v", "+OK", "SET n v PXAT 5010", "v@5010"}, {"PSETEX n 5 v", "+OK", "SET n v PXAT 15", "v@15"},
	} {
		checkFilled(t, filled(t, api.MaxKeys-1, "k=5"), api.RolePrimary,
			row{"65535", "MSET n 1 m 2", "-FULL", "", "k=5"}, row{"65535", "MSETNX n 1 m 2 n 3", "-FULL", "", "k=5"}, row{"65535", "MSET k 6 n 1 k 7 m 2", "-FULL", "", "k=5"},
			row{"65535", x.args, x.reply, x.told, "k=5 n=" + x.value},
			row{"65536", "SET m v", "-FULL", "", "="}, row{"65536", "MSET m v n w", "-FULL", "", "="},
		)
	}
}

// What looking takes out makes room; what is over and not looked at does not.
func TestAFullStoreOfWhatIsOver(t *testing.T) {
	const before = "e=5@10 f:list@9 k=v"
	checkFilled(t, filled(t, api.MaxKeys, before), api.RolePrimary,
		row{"65536", "SET n v", "-FULL", "", before}, row{"65536", "MSET n v e w", "-FULL", "", before},
		row{"65536", "INCR e", ":1", "DEL e | SET e 1", "e=1 f:list@9 k=v"},
		row{"65536", "MSETNX n 1 k 2 f 3", ":0", "DEL f", "e=1 k=v"},
		row{"65535", "SET n v", "+OK", "SET n v", "e=1 k=v n=v"}, row{"65536", "SET f v", "-FULL", "", "="},
	)
	checkFilled(t, filled(t, api.MaxKeys, before), api.RolePrimary,
		row{"65536", "MSETNX n 1 e 2 f 3", "-FULL", "DEL e | DEL f", "k=v"}, row{"65534", "MSETNX n 1 e 2", ":1", "MSET n 1 e 2", "e=2 k=v n=1"},
	)
	checkFilled(t, filled(t, api.MaxKeys, before), api.RolePrimary,
		row{"65536", "MSET e 1 k 2 f 3", "+OK", "MSET e 1 k 2 f 3", "e=1 f=3 k=2"}, row{"65536", "MSET e 1 n 2", "-FULL", "", "="},
	)
	checkFilled(t, filled(t, api.MaxKeys, before), api.RoleStream,
		row{"65536", "SET n v", "-FULL", "", before}, row{"65536", "SET e v", "+OK", "SET e v", "e=v f:list@9 k=v"}, row{"65536", "MSETNX n v f w", ":0", "", "="},
	)
	// For a reader there is room where what is over stands still.
	checkFilled(t, filled(t, api.MaxKeys, before), api.RoleReader,
		row{"65536", "SET n v", "-FULL", "", before}, row{"65536", "INCR n", "-FULL", "", before}, row{"65536", "SET e v", "+OK", "SET e v", "e=v f:list@9 k=v"}, row{"65536", "MSETNX f 1", ":1", "MSET f 1", "e=v f=1 k=v"},
	)
}
