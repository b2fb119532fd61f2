package hashes_test

import (
	"fmt"
	"slices"
	"strconv"
	"testing"

	"millpond/api"
	"millpond/hashes"
	"millpond/image"
	"millpond/space"
)

// filled is a space with so many keys: some that are named here, and numbers of six digits.
func filled(t *testing.T, n int, named string) *space.Space {
	t.Helper()
	l := entries(named)
	for i := range n - len(l) {
		l = append(l, stay(fmt.Sprintf("%06d", i), hash("v:1")))
	}
	return load(t, l)
}

// stands: does a key stand in a space just as entries tell, or not, if they do not tell of it?
func stands(t *testing.T, done string, s *space.Space, key string, l []api.Entry) {
	t.Helper()
	want, there := image.Find(l, key)
	if got, ok := s.Look(key); ok != there || !image.Same([]api.Entry{got}, []api.Entry{want}) {
		t.Errorf("behind %s: Look of %s = %v, %t; want %v", done, key, got, ok, want)
	}
}

// names are the keys of these tests, beside the numbers.
const names = "a b c e f k l n m o"

// checkFilled does the calls of rows on one space, one behind the other: before is how many keys there are then; of those that have names the rest tells.
func checkFilled(t *testing.T, s *space.Space, role api.Role, rows ...row) {
	t.Helper()
	for _, x := range rows {
		args := words(x.args)
		if got := fmt.Sprint(s.Len()); got != x.before {
			t.Errorf("ahead of %s there are %s keys; want %s", x.args, got, x.before)
		}
		was := map[string]api.Entry{}
		for _, key := range words(names) {
			if e, there := s.Look(key); there {
				was[key] = e
			}
		}
		r, got := hashes.Do(s, api.Call{Role: role, Now: 10, Args: args})
		if show(r) != reply(x.reply) || !sameTold(got, told(x.told)) {
			t.Errorf("%s, of %s keys, = %s, told %s; want %s, told %s", x.args, x.before, show(r), wroteTold(got), x.reply, x.told)
		}
		for _, key := range words(names) {
			l := entries(x.after)
			if x.after == "=" {
				l = []api.Entry{was[key]}
			}
			stands(t, x.args, s, key, l)
		}
	}
}

// On a full store: what is there may be another, what is new may not be.
func TestAFullStore(t *testing.T) {
	t.Parallel()
	const k = "k=5:5,6:x@11 l:str o=7:7"
	checkFilled(t, filled(t, api.MaxKeys, k), api.RolePrimary,
		row{"65536", "HSET n a 1", "-FULL", "", k}, row{"65536", "HSET n a 1 b 2 a 3", "-FULL", "", k}, row{"65536", "HSETNX n a 1", "-FULL", "", k}, row{"65536", "HINCRBY n a 1", "-FULL", "", k}, row{"65536", "HINCRBY n a 0", "-FULL", "", k}, row{"65536", "HSET n a 1 b", "-PAIRS", "", k}, row{"65536", "HINCRBY n a x", "-NUMBER", "", k}, row{"65536", "HSET l a 1", "-WRONG", "", k}, row{"65536", "HINCRBY k 6 1", "-HASH", "", k},
		row{"65536", "HDEL n a", ":0", "", k}, row{"65536", "HGET n a", "nil", "", k}, row{"65536", "HMGET n a", "[nil]", "", k}, row{"65536", "HLEN n", ":0", "", k}, row{"65536", "HGETALL n", "[]", "", k}, row{"65536", "HEXISTS n a", ":0", "", k}, row{"65536", "HSET k 5 5 6 x", ":0", "", k}, row{"65536", "HSETNX k 5 6", ":0", "", k}, row{"65536", "HINCRBY o 7 0", ":7", "", k},
		// What is there may be another.
		row{"65536", "HSET k 5 7 4 4", ":1", "HSET k 4 4 5 7", "k=4:4,5:7,6:x@11 l:str o=7:7"}, row{"65536", "HINCRBY o 8 1", ":1", "HSET o 8 1", "k=4:4,5:7,6:x@11 l:str o=7:7,8:1"}, row{"65536", "HSETNX o 9 1", ":1", "HSET o 9 1", "k=4:4,5:7,6:x@11 l:str o=7:7,8:1,9:1"}, row{"65536", "HDEL o 9 8 7", ":3", "HDEL o 7 8 9", "k=4:4,5:7,6:x@11 l:str"},
		row{"65535", "HSET k a 1", ":1", "HSET k a 1", "k=4:4,5:7,6:x,a:1@11 l:str"}, row{"65535", "HSET n a 1", ":1", "HSET n a 1", "k=4:4,5:7,6:x,a:1@11 l:str n=a:1"}, row{"65536", "HSET o a 1", "-FULL", "", "="}, row{"65536", "HDEL k 4 5 6 a", ":4", "HDEL k 4 5 6 a", "l:str n=a:1"}, row{"65535", "HINCRBY o a 5", ":5", "HSET o a 5", "l:str n=a:1 o=a:5"}, row{"65536", "HSETNX m a 1", "-FULL", "", "="},
	)
}

// The last free key, and one behind it.
func TestTheLastFreeKey(t *testing.T) {
	t.Parallel()
	for _, x := range []struct{ args, reply, told, after string }{
		{"HSET n w 2 v 1", ":2", "HSET n v 1 w 2", "k=5:5 n=v:1,w:2"}, {"HSETNX n v 1", ":1", "HSET n v 1", "k=5:5 n=v:1"}, {"HINCRBY n v 0", ":0", "HSET n v 0", "k=5:5 n=v:0"},
	} {
		checkFilled(t, filled(t, api.MaxKeys-1, "k=5:5"), api.RolePrimary,
			row{"65535", "HDEL n v", ":0", "", "k=5:5"}, row{"65535", x.args, x.reply, x.told, x.after},
			row{"65536", "HSET m v 1", "-FULL", "", "="}, row{"65536", "HSETNX m v 1", "-FULL", "", "="}, row{"65536", "HINCRBY m v 1", "-FULL", "", "="},
		)
	}
}

// What looking takes out makes room; what is over and not looked at does not.
func TestAFullStoreOfWhatIsOver(t *testing.T) {
	t.Parallel()
	const before = "e=5:5@10 f:str@9 k=v:1,w:2"
	checkFilled(t, filled(t, api.MaxKeys, before), api.RolePrimary,
		row{"65536", "HSET n v 1", "-FULL", "", before},
		row{"65536", "HSET e x 1", ":1", "DEL e | HSET e x 1", "e=x:1 f:str@9 k=v:1,w:2"},
		row{"65536", "HINCRBY f x 1", ":1", "DEL f | HSET f x 1", "e=x:1 f=x:1 k=v:1,w:2"},
		row{"65536", "HSETNX n v 1", "-FULL", "", "="},
	)
	checkFilled(t, filled(t, api.MaxKeys, before), api.RolePrimary,
		row{"65536", "HSET f v 1 w", "-PAIRS", "", before}, row{"65536", "HSETNX e 5 1", ":1", "DEL e | HSET e 5 1", "e=5:1 f:str@9 k=v:1,w:2"}, row{"65536", "HLEN f", ":0", "DEL f", "e=5:1 k=v:1,w:2"}, row{"65535", "HINCRBY n v 1", ":1", "HSET n v 1", "e=5:1 k=v:1,w:2 n=v:1"},
	)
	checkFilled(t, filled(t, api.MaxKeys, before), api.RoleStream,
		row{"65536", "HSET n v 1", "-FULL", "", before}, row{"65536", "HSET e v 1", ":1", "HSET e v 1", "e=5:5,v:1@10 f:str@9 k=v:1,w:2"}, row{"65536", "HSET f v 1", "-WRONG", "", "="}, row{"65536", "HINCRBY e 5 1", ":6", "HSET e 5 6", "e=5:6,v:1@10 f:str@9 k=v:1,w:2"},
	)
	// For a reader there is room where what is over stands still.
	checkFilled(t, filled(t, api.MaxKeys, before), api.RoleReader,
		row{"65536", "HSET n v 1", "-FULL", "", before}, row{"65536", "HSET e v 1", ":1", "HSET e v 1", "e=v:1 f:str@9 k=v:1,w:2"}, row{"65536", "HINCRBY f v 1", ":1", "HSET f v 1", "e=v:1 f=v:1 k=v:1,w:2"},
	)
	checkFilled(t, filled(t, api.MaxKeys, before), api.RoleReader,
		row{"65536", "HSETNX e 5 1", ":1", "HSET e 5 1", "e=5:1 f:str@9 k=v:1,w:2"}, row{"65536", "HDEL f a", ":0", "", "="}, row{"65536", "HSETNX n v 1", "-FULL", "", "="},
	)
}

// LARGE

// A hash of so many fields as may be, and of some less, to which some more come, and some that it has.
func TestAsManyFieldsAsMayBe(t *testing.T) {
	t.Parallel()
	for _, n := range []int{65533, 65535, 65536} {
		before := []api.Entry{ends("k", api.Value{Kind: api.KHash, H: fieldsOf(0, n)}, 11)}
		for more := range 5 {
			for _, known := range [][]api.Field{nil, fieldsOf(0, 3), {{F: "1000000", V: "other"}}} {
				if more+len(known) == 0 {
					continue
				}
				fresh := fieldsOf(70000, more)
				for _, pairs := range [][]string{pairsOf(slices.Concat(fresh, known)...), pairsOf(slices.Concat(known, fresh, fresh)...)} {
					c := api.Call{Role: api.RolePrimary, Now: 10, Args: append([]string{"HSET", "k"}, pairs...)}
					newTrio(t, before).do(t, c)
					r, told := hashes.Do(load(t, before), c)
					want := ":" + strconv.Itoa(more)
					if n+more > 65536 {
						want = reply("-LARGE")
					}
					changes := n+more <= 65536 && (more > 0 || len(known) == 1)
					if show(r) != want || changes != (len(told) == 1) {
						t.Errorf("HSET of %d more, and %d that it has, to %d = %s, told %d", more, len(known), n, show(r), len(told))
					}
				}
			}
		}
	}
}

func TestLarge(t *testing.T) {
	t.Parallel()
	most, less := ends("k", api.Value{Kind: api.KHash, H: fieldsOf(0, 65536)}, 11), ends("k", api.Value{Kind: api.KHash, H: fieldsOf(0, 65535)}, 11)
	for _, x := range []struct {
		before      api.Entry
		args, reply string
	}{
		{most, "HSET k x 5", "-LARGE"}, {most, "HSET k x 5 1000000 5", "-LARGE"}, {most, "HSET k 1000000 5 x 5", "-LARGE"}, {most, "HSET k 1000000 5 1000001 6", ":0"}, {most, "HSET k 1000000 0", ":0"}, {most, "HSET k x 5 y", "-PAIRS"},
		{most, "HSETNX k x 5", "-LARGE"}, {most, "HSETNX k 1000000 5", ":0"}, {most, "HINCRBY k x 5", "-LARGE"}, {most, "HINCRBY k x 0", "-LARGE"}, {most, "HINCRBY k 1000000 5", ":5"}, {most, "HINCRBY k x x", "-NUMBER"}, {most, "HINCRBY k 1000002 9223372036854775807", "-OVER"},
		{less, "HSET k x 5", ":1"}, {less, "HSET k x 5 x 6", ":1"}, {less, "HSET k x 5 y 5", "-LARGE"}, {less, "HSET k x 5 1000000 5", ":1"}, {less, "HSETNX k x 5", ":1"}, {less, "HINCRBY k x 5", ":5"},
		{most, "HLEN k", ":65536"}, {most, "HGET k 1065535", "$65535"}, {most, "HGET k 1065536", "nil"}, {most, "HMGET k 1000000 x 1065535", "[$0 nil $65535]"}, {most, "HEXISTS k 1065535", ":1"}, {most, "HSTRLEN k 1065535", ":5"}, {most, "HDEL k 1000000 1065535 1065536", ":2"},
	} {
		c := api.Call{Role: api.RolePrimary, Now: 10, Args: words(x.args)}
		newTrio(t, []api.Entry{x.before}).do(t, c)
		if r, _ := hashes.Do(load(t, []api.Entry{x.before}), c); show(r) != reply(x.reply) {
			t.Errorf("%s = %s; want %s", ask(c), short(show(r)), x.reply)
		}
	}
	for args, n := range map[string]int{"HKEYS k": 65536, "HVALS k": 65536, "HGETALL k": 131072} {
		c := api.Call{Role: api.RolePrimary, Now: 10, Args: words(args)}
		newTrio(t, []api.Entry{most}).do(t, c)
		if r, _ := hashes.Do(load(t, []api.Entry{most}), c); len(r.L) != n {
			t.Errorf("%s tells %d", args, len(r.L))
		}
	}
}

// FULL is found behind LARGE. A command has 511 pairs at most, so no new key can be too large; where a key is too large already there is no new one. So both errors never meet, but each is found behind all others.
func TestLargeAndFullOnAFullStore(t *testing.T) {
	t.Parallel()
	s := filled(t, api.MaxKeys-1, "l:set")
	if e := s.Put("000001", api.Value{Kind: api.KHash, H: fieldsOf(0, 65536)}, api.Never); e != api.OK {
		t.Fatal(e)
	}
	checkFilled(t, s, api.RolePrimary,
		row{"65535", "HSET 000001 x 1", "-LARGE", "", "="}, row{"65535", "HSET n x 1", ":1", "HSET n x 1", "l:set n=x:1"},
		row{"65536", "HSET 000001 x 1", "-LARGE", "", "="}, row{"65536", "HSETNX 000001 x 1", "-LARGE", "", "="}, row{"65536", "HINCRBY 000001 x 1", "-LARGE", "", "="}, row{"65536", "HSET 000001 1000000 1", ":0", "HSET 000001 1000000 1", "="}, row{"65536", "HSET m x 1", "-FULL", "", "="}, row{"65536", "HSET l x 1", "-WRONG", "", "="},
	)
	args := append([]string{"HSET", "m"}, pairsOf(fieldsOf(0, 511)...)...)
	if r, told := hashes.Do(s, api.Call{Role: api.RolePrimary, Args: args}); show(r) != reply("-FULL") || len(told) > 0 {
		t.Errorf("HSET of 511 to a full store = %s", show(r))
	}
}

// Long rows go quickly: nothing goes through a hash once for each of the fields that are named.
func TestLongRowsGoQuickly(t *testing.T) {
	t.Parallel()
	s := load(t, []api.Entry{stay("k", api.Value{Kind: api.KHash, H: fieldsOf(0, 65536)})})
	for range 20 {
		for _, args := range [][]string{append([]string{"HMGET", "k"}, namesOf(fieldsOf(65000, 1022)...)...), append([]string{"HSET", "k"}, pairsOf(fieldsOf(30000, 511)...)...), append([]string{"HDEL", "k"}, namesOf(fieldsOf(40000, 1022)...)...), append([]string{"HSET", "k"}, pairsOf(fieldsOf(40000, 511)...)...)} {
			if r, _ := hashes.Do(s, api.Call{Role: api.RolePrimary, Args: args}); r.Kind == 0 || r.Kind == api.RError {
				t.Errorf("%s = %s", args[0], short(show(r)))
			}
		}
	}
}
