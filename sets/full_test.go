package sets_test

import (
	"fmt"
	"slices"
	"strconv"
	"testing"

	"millpond/api"
	"millpond/image"
	"millpond/sets"
	"millpond/space"
)

// filled is a space with so many keys: some that are named here, and numbers of six digits.
func filled(t *testing.T, n int, named string) *space.Space {
	t.Helper()
	l := entries(named)
	for i := range n - len(l) {
		l = append(l, stay(fmt.Sprintf("%06d", i), set("v")))
	}
	return load(t, l)
}

// stands: does a key stand in a space just as entries tell, or not, if they do not tell of it?
func stands(t *testing.T, done string, s *space.Space, key string, l []api.Entry) {
	t.Helper()
	want, there := image.Find(l, key)
	if got, ok := s.Look(key); ok != there || !image.Same([]api.Entry{got}, []api.Entry{want}) {
		t.Errorf("behind %s: Look of %s = %v, %t; want %v", done, key, got, ok, want)
	}
}

// names are the keys of these tests, beside the numbers.
const names = "a b c e f k l n m o"

// checkFilled does the calls of rows on one space, one behind the other: before is how many keys there are then; of those that have names the rest tells.
func checkFilled(t *testing.T, s *space.Space, role api.Role, rows ...row) {
	t.Helper()
	for _, x := range rows {
		args := words(x.args)
		if got := fmt.Sprint(s.Len()); got != x.before {
			t.Errorf("ahead of %s there are %s keys; want %s", x.args, got, x.before)
		}
		was := map[string]api.Entry{}
		for _, key := range words(names) {
			if e, there := s.Look(key); there {
				was[key] = e
			}
		}
		r, got := sets.Do(s, api.Call{Role: role, Now: 10, Args: args})
		if show(r) != reply(x.reply) || !sameTold(got, told(x.told)) {
			t.Errorf("%s, of %s keys, = %s, told %s; want %s, told %s", x.args, x.before, show(r), wroteTold(got), x.reply, x.told)
		}
		for _, key := range words(names) {
			l := entries(x.after)
			if x.after == "=" {
				l = []api.Entry{was[key]}
			}
			stands(t, x.args, s, key, l)
		}
	}
}

// On a full store: what is there may be another, what is new may not be.
func TestAFullStore(t *testing.T) {
	t.Parallel()
	const k = "k=5,6@11 l:str o=7"
	checkFilled(t, filled(t, api.MaxKeys, k), api.RolePrimary,
		row{"65536", "SADD n v", "-FULL", "", k}, row{"65536", "SADD n v w v", "-FULL", "", k}, row{"65536", "SADD l v", "-WRONG", "", k}, row{"65536", "SADD k 5 6", ":0", "", k},
		row{"65536", "SREM n v", ":0", "", k}, row{"65536", "SPOP n", "nil", "", k}, row{"65536", "SPOP n 1", "[]", "", k}, row{"65536", "SCARD n", ":0", "", k}, row{"65536", "SUNION n k", "[$5 $6]", "", k},
		// What has members left makes no room; what has none does.
		row{"65536", "SMOVE k n 5", "-FULL", "", k}, row{"65536", "SMOVE k n 7", ":0", "", k}, row{"65536", "SMOVE n m 5", ":0", "", k}, row{"65536", "SMOVE k l 5", "-WRONG", "", k}, row{"65536", "SMOVE k k 5", ":1", "", k},
		row{"65536", "SMOVE o n 7", ":1", "SREM o 7 | SADD n 7", "k=5,6@11 l:str n=7"}, row{"65536", "SMOVE n o 7", ":1", "SREM n 7 | SADD o 7", k},
		// A key that is stored to.
		row{"65536", "SUNIONSTORE n k o", "-FULL", "", k}, row{"65536", "SINTERSTORE n k", "-FULL", "", k}, row{"65536", "SDIFFSTORE n k o", "-FULL", "", k}, row{"65536", "SDIFFSTORE n k k", ":0", "", k}, row{"65536", "SUNIONSTORE n k l", "-WRONG", "", k},
		row{"65536", "SUNIONSTORE o k o", ":3", "DEL o | SADD o 5 6 7", "k=5,6@11 l:str o=5,6,7"}, row{"65536", "SINTERSTORE l k o", ":2", "DEL l | SADD l 5 6", "k=5,6@11 l=5,6 o=5,6,7"},
		// What is there may be another.
		row{"65536", "SADD k 4", ":1", "SADD k 4", "k=4,5,6@11 l=5,6 o=5,6,7"}, row{"65536", "SMOVE k o 4", ":1", "SREM k 4 | SADD o 4", "k=5,6@11 l=5,6 o=4,5,6,7"}, row{"65536", "SMOVE k o 6", ":1", "SREM k 6", "k=5@11 l=5,6 o=4,5,6,7"}, row{"65536", "SMOVE k o 5", ":1", "SREM k 5", "l=5,6 o=4,5,6,7"},
		row{"65535", "SMOVE l n 5", ":1", "SREM l 5 | SADD n 5", "l=6 n=5 o=4,5,6,7"}, row{"65536", "SADD k 1", "-FULL", "", "="}, row{"65536", "SDIFFSTORE n n o", ":0", "DEL n", "l=6 o=4,5,6,7"}, row{"65535", "SPOP l 9", "[$6]", "SREM l 6", "o=4,5,6,7"},
	)
}

// The last free key, and one behind it.
func TestTheLastFreeKey(t *testing.T) {
	t.Parallel()
	for _, x := range []struct{ args, reply, told, after string }{
		{"SADD n w v", ":2", "SADD n v w", "k=5,6 n=v,w"}, {"SMOVE k n 5", ":1", "SREM k 5 | SADD n 5", "k=6 n=5"}, {"SUNIONSTORE n k", ":2", "SADD n 5 6", "k=5,6 n=5,6"}, {"SINTERSTORE n k k", ":2", "SADD n 5 6", "k=5,6 n=5,6"}, {"SDIFFSTORE n k m", ":2", "SADD n 5 6", "k=5,6 n=5,6"},
	} {
		checkFilled(t, filled(t, api.MaxKeys-1, "k=5,6"), api.RolePrimary,
			row{"65535", "SREM n v", ":0", "", "k=5,6"}, row{"65535", x.args, x.reply, x.told, x.after},
			row{"65536", "SADD m v", "-FULL", "", "="}, row{"65536", "SUNIONSTORE m n", "-FULL", "", "="},
		)
	}
}

// What looking takes out makes room; what is over and not looked at does not.
func TestAFullStoreOfWhatIsOver(t *testing.T) {
	t.Parallel()
	const before = "e=5@10 f:str@9 k=v,w"
	checkFilled(t, filled(t, api.MaxKeys, before), api.RolePrimary,
		row{"65536", "SADD n v", "-FULL", "", before}, row{"65536", "SMOVE k n v", "-FULL", "", before}, row{"65536", "SUNIONSTORE n k", "-FULL", "", before},
		row{"65536", "SADD e x", ":1", "DEL e | SADD e x", "e=x f:str@9 k=v,w"},
		row{"65536", "SMOVE k f v", ":1", "DEL f | SREM k v | SADD f v", "e=x f=v k=w"},
		row{"65536", "SADD n v", "-FULL", "", "="},
	)
	checkFilled(t, filled(t, api.MaxKeys, before), api.RolePrimary,
		row{"65536", "SUNIONSTORE n k f", ":2", "DEL f | SADD n v w", "e=5@10 k=v,w n=v,w"}, row{"65536", "SUNIONSTORE e k", ":2", "DEL e | SADD e v w", "e=v,w k=v,w n=v,w"}, row{"65536", "SADD f v", "-FULL", "", "="},
	)
	checkFilled(t, filled(t, api.MaxKeys, before), api.RoleStream,
		row{"65536", "SADD n v", "-FULL", "", before}, row{"65536", "SADD e v", ":1", "SADD e v", "e=5,v@10 f:str@9 k=v,w"}, row{"65536", "SMOVE e n v", "-FULL", "", "="}, row{"65536", "SMOVE e f v", "-WRONG", "", "="}, row{"65536", "SUNIONSTORE f e", ":2", "DEL f | SADD f 5 v", "e=5,v@10 f=5,v k=v,w"},
	)
	// For a reader there is room where what is over stands still.
	checkFilled(t, filled(t, api.MaxKeys, before), api.RoleReader,
		row{"65536", "SADD n v", "-FULL", "", before}, row{"65536", "SMOVE k n v", "-FULL", "", before}, row{"65536", "SUNIONSTORE n k e", "-FULL", "", before}, row{"65536", "SADD e v", ":1", "SADD e v", "e=v f:str@9 k=v,w"}, row{"65536", "SMOVE k f v", ":1", "SREM k v | SADD f v", "e=v f=v k=w"},
	)
	checkFilled(t, filled(t, api.MaxKeys, before), api.RoleReader, row{"65536", "SUNIONSTORE f e k", ":2", "SADD f v w", "e=5@10 f=v,w k=v,w"})
}

// LARGE

// A set of so many members as may be, and of some less, to which some more come, and some that it has.
func TestAsManyMembersAsMayBe(t *testing.T) {
	t.Parallel()
	for _, n := range []int{65533, 65535, 65536} {
		before := []api.Entry{ends("k", set(texts(0, n)...), 11)}
		for more := range 5 {
			for _, known := range []int{0, 3} {
				c := api.Call{Role: api.RolePrimary, Now: 10, Args: slices.Concat([]string{"SADD", "k"}, texts(70000, more), texts(0, known))}
				if more+known == 0 {
					continue
				}
				newTrio(t, before).do(t, c)
				r, told := sets.Do(load(t, before), c)
				want := ":" + strconv.Itoa(more)
				if n+more > 65536 {
					want = reply("-LARGE")
				}
				if show(r) != want || (n+more > 65536 || more == 0) != (len(told) == 0) {
					t.Errorf("SADD of %d more, and %d that it has, to %d = %s, told %d", more, known, n, show(r), len(told))
				}
			}
		}
	}
}

func TestLarge(t *testing.T) {
	t.Parallel()
	most, less := ends("k", set(texts(0, 65536)...), 11), ends("k", set(texts(0, 65535)...), 11)
	two, one, other := stay("n", set("x", "1000000")), stay("n", set("x")), stay("n", values["str"])
	first, second, many := stay("a", set(texts(0, 40000)...)), stay("b", set(texts(30000, 35536)...)), stay("c", set(texts(30000, 35537)...))
	for _, x := range []struct {
		before []api.Entry
		args   string
		reply  string
	}{
		{[]api.Entry{most, two}, "SMOVE n k x", "-LARGE"}, {[]api.Entry{most, one}, "SMOVE n k x", "-LARGE"}, {[]api.Entry{most, two}, "SMOVE n k 1000000", ":1"}, {[]api.Entry{most, two}, "SMOVE n k y", ":0"}, {[]api.Entry{less, two}, "SMOVE n k x", ":1"}, {[]api.Entry{less, one}, "SMOVE n k x", ":1"},
		{[]api.Entry{most, two}, "SMOVE k n 1000001", ":1"}, {[]api.Entry{most}, "SMOVE k n 1000001", ":1"}, {[]api.Entry{most, other}, "SMOVE k n 1000001", "-WRONG"}, {[]api.Entry{most}, "SMOVE k k 1000001", ":1"},
		{[]api.Entry{first, second}, "SUNIONSTORE d a b", ":65536"}, {[]api.Entry{first, many}, "SUNIONSTORE d a c", "-LARGE"}, {[]api.Entry{first, many}, "SUNIONSTORE a a c", "-LARGE"}, {[]api.Entry{first, many}, "SUNIONSTORE c c a x", "-LARGE"}, {[]api.Entry{first, many}, "SINTERSTORE d a c", ":10000"}, {[]api.Entry{first, many}, "SDIFFSTORE d c a", ":25537"}, {[]api.Entry{first, many, other}, "SUNIONSTORE d a c n", "-WRONG"}, {[]api.Entry{first, many, ends("d", set("v"), 10)}, "SUNIONSTORE d a c", "-LARGE"},
		{[]api.Entry{most}, "SUNIONSTORE d k k", ":65536"}, {[]api.Entry{most}, "SUNIONSTORE k k", ":65536"}, {[]api.Entry{most, one}, "SUNIONSTORE n k n", "-LARGE"},
		{[]api.Entry{most}, "SCARD k", ":65536"}, {[]api.Entry{most}, "SISMEMBER k 1065535", ":1"}, {[]api.Entry{most}, "SMISMEMBER k 1065536 1065535", "[:0 :1]"}, {[]api.Entry{most}, "SREM k 1000000 1065535 1065536", ":2"}, {[]api.Entry{most}, "SPOP k", "$1000000"}, {[]api.Entry{most}, "SPOP k 1", "[$1000000]"},
	} {
		c := api.Call{Role: api.RolePrimary, Now: 10, Args: words(x.args)}
		newTrio(t, x.before).do(t, c)
		if r, _ := sets.Do(load(t, x.before), c); show(r) != reply(x.reply) {
			t.Errorf("%s = %s; want %s", ask(c), short(show(r)), x.reply)
		}
	}
	for _, args := range []string{"SMEMBERS k", "SUNION k a", "SUNION a c", "SRANDMEMBER k 9"} { // what only reads may tell more
		newTrio(t, []api.Entry{most, first, many}).do(t, api.Call{Role: api.RolePrimary, Now: 10, Draw: 7, Args: words(args)})
	}
}

// Of as many members as may be: nearly all, all, and more than that are drawn.
func TestDrawsOfAsManyAsMayBe(t *testing.T) {
	t.Parallel()
	before := []api.Entry{ends("k", set(texts(0, 65536)...), 11)}
	for _, n := range []string{"65535", "65536", "65537", "9223372036854775807"} {
		for _, name := range []string{"SPOP", "SRANDMEMBER"} {
			c := api.Call{Role: api.RolePrimary, Now: 10, Draw: 12345678901234567890, Args: []string{name, "k", n}}
			newTrio(t, before).do(t, c)
			want := 65536
			if n == "65535" {
				want = 65535
			}
			if r, _ := sets.Do(load(t, before), c); len(r.L) != want {
				t.Errorf("%s %s of 65536 tells %d", name, n, len(r.L))
			}
		}
	}
}

// FULL is found behind LARGE.
func TestLargeAheadOfFull(t *testing.T) {
	t.Parallel()
	const k = "k=5,6 l:str"
	s := filled(t, api.MaxKeys-2, k)
	for _, key := range []string{"000001", "000002"} { // two great sets, that together are too great
		from := 0
		if key == "000002" {
			from = 40000
		}
		if e := s.Put(key, set(texts(from, 40000)...), api.Never); e != api.OK {
			t.Fatal(e)
		}
	}
	checkFilled(t, s, api.RolePrimary,
		row{"65534", "SUNIONSTORE n 000001 000002", "-LARGE", "", k}, row{"65534", "SADD m v", ":1", "SADD m v", "k=5,6 l:str m=v"}, row{"65535", "SADD o v", ":1", "SADD o v", "k=5,6 l:str m=v o=v"},
		row{"65536", "SUNIONSTORE n 000001 000002", "-LARGE", "", "="}, row{"65536", "SUNIONSTORE n 000001 000002 l", "-WRONG", "", "="}, row{"65536", "SUNIONSTORE n k", "-FULL", "", "="}, row{"65536", "SUNIONSTORE m 000001 000002", "-LARGE", "", "="}, row{"65536", "SINTERSTORE n 000001 000002 k", ":0", "", "="},
	)
}

// Long rows go quickly: nothing goes through a set once for each of its members.
func TestLongRowsGoQuickly(t *testing.T) {
	t.Parallel()
	before := []api.Entry{stay("k", set(texts(0, 65536)...)), stay("n", set(texts(65000, 60000)...))}
	for _, args := range [][]string{{"SPOP", "k", "40000"}, {"SRANDMEMBER", "k", "65537"}, {"SUNION", "k", "n", "k"}, {"SDIFF", "n", "k", "k"}, {"SINTERSTORE", "d", "k", "k"}, append([]string{"SMISMEMBER", "k"}, texts(65000, 1022)...), append([]string{"SREM", "k"}, texts(65000, 1022)...)} {
		r, told := sets.Do(load(t, before), api.Call{Role: api.RolePrimary, Args: args})
		if r.Kind == 0 || r.Kind == api.RError || len(told) > 66 {
			t.Errorf("%s = %s", args[0], short(show(r)))
		}
	}
}

// A set that is named often isn't copied as often: a short call of a client takes no more room than the store.
func TestASetThatIsNamedOften(t *testing.T) {
	s := load(t, []api.Entry{stay("k", set(texts(0, 1000)...)), stay("n", set(texts(999, 2)...))})
	for _, name := range []string{"SUNION", "SINTER", "SDIFF"} {
		args := append([]string{name, "n"}, slices.Repeat([]string{"k"}, 1000)...)
		made := testing.AllocsPerRun(1, func() { sets.Do(s, api.Call{Role: api.RolePrimary, Args: args}) })
		if made > 50000 {
			t.Errorf("%s of one set a thousand times makes %.0f pieces of memory", name, made)
		}
	}
}
