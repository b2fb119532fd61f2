package keys_test

import (
	"fmt"
	"testing"

	"millpond/api"
	"millpond/image"
	"millpond/keys"
	"millpond/space"
)

// filled is a space with so many keys: some that are named here, and numbers of six digits.
func filled(t *testing.T, n int, named string) *space.Space {
	t.Helper()
	l := entries(named)
	for i := range n - len(l) {
		l = append(l, stay(fmt.Sprintf("%06d", i), str("v")))
	}
	return load(t, l)
}

// stands: does a key stand in a space just as entries tell, or not, if they do not tell of it?
func stands(t *testing.T, done string, s *space.Space, key string, l []api.Entry) {
	t.Helper()
	want, there := image.Find(l, key)
	if got, ok := s.Look(key); ok != there || !image.Same([]api.Entry{got}, []api.Entry{want}) {
		t.Errorf("behind %s: Look of %s = %v, %t; want %v", done, key, got, ok, want)
	}
}

// names are the keys of these tests, beside the numbers.
const names = "a b c e f k l n m o"

// checkFilled does the calls of rows on one space, one behind the other: before is how many keys there are then; of those that have names the rest tells.
func checkFilled(t *testing.T, s *space.Space, role api.Role, rows ...row) {
	t.Helper()
	for _, x := range rows {
		args := words(x.args)
		if got := fmt.Sprint(s.Len()); got != x.before {
			t.Errorf("ahead of %s there are %s keys; want %s", x.args, got, x.before)
		}
		was := map[string]api.Entry{}
		for _, key := range words(names) {
			if e, there := s.Look(key); there {
				was[key] = e
			}
		}
		r, got := keys.Do(s, api.Call{Role: role, Now: 10, Args: args})
		if show(r) != reply(x.reply, args[0]) || !sameTold(got, told(x.told)) {
			t.Errorf("%s, of %s keys, = %s, told %s; want %s, told %s", x.args, x.before, show(r), wroteTold(got), x.reply, x.told)
		}
		for _, key := range words(names) {
			l := entries(x.after)
			if x.after == "=" {
				l = []api.Entry{was[key]}
			}
			stands(t, x.args, s, key, l)
		}
	}
}

// On a full store a key has another name: it makes the room itself.
func TestAFullStore(t *testing.T) {
	t.Parallel()
	const k = "e=6@10 f:set@9 k=5@11 l:list"
	for _, role := range roles {
		sees := role != api.RolePrimary && role != api.RoleReader // what is over
		checkFilled(t, filled(t, api.MaxKeys, k), role,
			row{"65536", "RENAME n m", "-NOKEY", "", k}, row{"65536", "RENAMENX k l", ":0", "", "="}, row{"65536", "RENAME k k", "+OK", "", "="}, row{"65536", "RENAMENX k k", ":0", "", "="}, row{"65536", "DBSIZE", ":65536", "", "="}, row{"65536", "EXPIRE n 5", ":0", "", "="}, row{"65536", "PERSIST n", ":0", "", "="},
			row{"65536", "RENAME k n", "+OK", "RENAME k n", "e=6@10 f:set@9 n=5@11 l:list"}, row{"65536", "RENAMENX n m", ":1", "RENAME n m", "e=6@10 f:set@9 m=5@11 l:list"}, row{"65536", "RENAMENX l k", ":1", "RENAME l k", "e=6@10 f:set@9 m=5@11 k:list"}, row{"65536", "EXPIRE m 2", ":1", "PEXPIREAT m 2010", "e=6@10 f:set@9 m=5@2010 k:list"}, row{"65536", "PERSIST m", ":1", "PERSIST m", "e=6@10 f:set@9 m=5 k:list"},
			row{"65536", "RENAME m k", "+OK", "RENAME m k", "e=6@10 f:set@9 k=5"}, row{"65535", "RENAME k n", "+OK", "RENAME k n", "e=6@10 f:set@9 n=5"},
		)
		s := filled(t, api.MaxKeys, k)
		switch {
		case sees:
			checkFilled(t, s, role, row{"65536", "RENAME k e", "+OK", "RENAME k e", "e=5@11 f:set@9 l:list"}, row{"65535", "RENAMENX e f", ":0", "", "="}, row{"65535", "RENAME f n", "+OK", "RENAME f n", "e=5@11 n:set@9 l:list"})
		case role == api.RolePrimary:
			checkFilled(t, s, role, row{"65536", "RENAME k e", "+OK", "DEL e | RENAME k e", "e=5@11 f:set@9 l:list"}, row{"65535", "RENAMENX e f", ":1", "DEL f | RENAME e f", "f=5@11 l:list"})
		default:
			checkFilled(t, s, role, row{"65536", "RENAME k e", "+OK", "RENAME k e", "e=5@11 f:set@9 l:list"}, row{"65535", "RENAMENX e f", ":1", "RENAME e f", "f=5@11 l:list"}, row{"65534", "RENAME l n", "+OK", "RENAME l n", "f=5@11 n:list"})
		}
		checkFilled(t, s, role, row{fmt.Sprint(s.Len()), "DEL 000001 000002 000001", ":2", "DEL 000001 | DEL 000002", "="}, row{fmt.Sprint(s.Len() - 2), "FLUSHALL", "+OK", "FLUSHALL", ""}, row{"0", "FLUSHALL", "+OK", "", ""})
	}
}

// A store full of what is over: RANDOMKEY takes out all of it, KEYS and DBSIZE none.
func TestAStoreOfWhatIsOver(t *testing.T) {
	t.Parallel()
	var l []api.Entry
	for i := range 3000 {
		l = append(l, ends(fmt.Sprintf("%06d", i), str("v"), i%11))
	}
	s, other := load(t, l), load(t, l)
	for args, want := range map[string]string{"KEYS *": "[]", "DBSIZE": ":3000"} {
		if r, told := keys.Do(s, api.Call{Role: api.RolePrimary, Now: 10, Args: words(args)}); show(r) != want || len(told) > 0 || s.Len() != 3000 {
			t.Errorf("%s = %s, told %d", args, show(r), len(told))
		}
	}
	r, told := keys.Do(s, api.Call{Role: api.RolePrimary, Now: 10, Draw: 77, Args: words("RANDOMKEY")})
	if show(r) != "nil" || len(told) != 3000 || s.Len() != 0 {
		t.Errorf("RANDOMKEY = %s, told %d, leaves %d", show(r), len(told), s.Len())
	}
	apply(t, other, told)
	holds(t, "what RANDOMKEY told", other, nil)
}
