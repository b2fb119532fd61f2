package zsets_test

import (
	"fmt"
	"slices"
	"strconv"
	"testing"

	"millpond/api"
	"millpond/image"
	"millpond/skip"
	"millpond/space"
	"millpond/zsets"
)

// filled is a space with so many keys: some that are named here, and numbers of six digits.
func filled(t *testing.T, n int, named string) *space.Space {
	t.Helper()
	l := entries(named)
	for i := range n - len(l) {
		l = append(l, stay(fmt.Sprintf("%06d", i), zset("v:1")))
	}
	return load(t, l)
}

// stands: does a key stand in a space just as entries tell, or not, if they do not tell of it?
func stands(t *testing.T, done string, s *space.Space, key string, l []api.Entry) {
	t.Helper()
	want, there := image.Find(l, key)
	if got, ok := s.Look(key); ok != there || !image.Same([]api.Entry{got}, []api.Entry{want}) {
		t.Errorf("behind %s: Look of %s = %v, %t; want %v", done, key, got, ok, want)
	}
}

// names are the keys of these tests, beside the numbers.
const names = "a b c e f k l n m o"

// checkFilled does the calls of rows on one space, one behind the other: before is how many keys there are then; of those that have names the rest tells.
func checkFilled(t *testing.T, s *space.Space, role api.Role, rows ...row) {
	t.Helper()
	for _, x := range rows {
		args := words(x.args)
		if got := fmt.Sprint(s.Len()); got != x.before {
			t.Errorf("ahead of %s there are %s keys; want %s", x.args, got, x.before)
		}
		was := map[string]api.Entry{}
		for _, key := range words(names) {
			if e, there := s.Look(key); there {
				was[key] = e
			}
		}
		r, got := zsets.Do(s, api.Call{Role: role, Now: 10, Args: args})
		if show(r) != reply(x.reply) || !sameTold(got, told(x.told)) {
			t.Errorf("%s, of %s keys, = %s, told %s; want %s, told %s", x.args, x.before, show(r), wroteTold(got), x.reply, x.told)
		}
		for _, key := range words(names) {
			l := entries(x.after)
			if x.after == "=" {
				l = []api.Entry{was[key]}
			}
			stands(t, x.args, s, key, l)
		}
	}
}

// On a full store: what is there may be another, what is new may not be.
func TestAFullStore(t *testing.T) {
	t.Parallel()
	const k = "k=5:5,6:6@11 l:str o=7:7"
	checkFilled(t, filled(t, api.MaxKeys, k), api.RolePrimary,
		row{"65536", "ZADD n 1 v", "-FULL", "", k}, row{"65536", "ZADD n CH 1 v 2 w 3 v", "-FULL", "", k}, row{"65536", "ZADD n INCR 1 v", "-FULL", "", k}, row{"65536", "ZINCRBY n 1 v", "-FULL", "", k}, row{"65536", "ZINCRBY n 0 v", "-FULL", "", k}, row{"65536", "ZADD n NX GT 1 v", "-SYNTAX", "", k}, row{"65536", "ZADD n x v", "-NUMBER", "", k}, row{"65536", "ZADD l 1 v", "-WRONG", "", k}, row{"65536", "ZADD n XX 1 v", ":0", "", k}, row{"65536", "ZADD n XX INCR 1 v", "nil", "", k},
		row{"65536", "ZREM n v", ":0", "", k}, row{"65536", "ZPOPMIN n", "[]", "", k}, row{"65536", "ZPOPMAX n 1", "[]", "", k}, row{"65536", "ZCARD n", ":0", "", k}, row{"65536", "ZREMRANGEBYRANK n 0 -1", ":0", "", k}, row{"65536", "ZREMRANGEBYSCORE n 0 9", ":0", "", k}, row{"65536", "ZRANGE n 0 -1", "[]", "", k}, row{"65536", "ZADD k 5 5 6 6", ":0", "", k},
		// What is there may be another.
		row{"65536", "ZADD k 4 4 7 5", ":1", "ZADD k 4 4 7 5", "k=4:4,6:6,5:7@11 l:str o=7:7"}, row{"65536", "ZINCRBY o 1 8", "$1", "ZADD o 1 8", "k=4:4,6:6,5:7@11 l:str o=8:1,7:7"}, row{"65536", "ZREM o 8 7", ":2", "ZREM o 8 7", "k=4:4,6:6,5:7@11 l:str"},
		row{"65535", "ZADD k 1 v", ":1", "ZADD k 1 v", "k=v:1,4:4,6:6,5:7@11 l:str"}, row{"65535", "ZADD n 1 v", ":1", "ZADD n 1 v", "k=v:1,4:4,6:6,5:7@11 l:str n=v:1"}, row{"65536", "ZADD o 1 v", "-FULL", "", "="}, row{"65536", "ZPOPMAX k 9", "[$5 $7 $6 $6 $4 $4 $v $1]", "ZREM k 5 6 4 v", "l:str n=v:1"}, row{"65535", "ZADD o INCR 1 v", "$1", "ZADD o 1 v", "l:str n=v:1 o=v:1"}, row{"65536", "ZINCRBY m 1 v", "-FULL", "", "="},
	)
}

// The last free key, and one behind it.
func TestTheLastFreeKey(t *testing.T) {
	t.Parallel()
	for _, x := range []struct{ args, reply, told, after string }{
		{"ZADD n 2 w 1 v", ":2", "ZADD n 2 w 1 v", "k=5:5 n=v:1,w:2"}, {"ZADD n CH NX 1 v", ":1", "ZADD n 1 v", "k=5:5 n=v:1"}, {"ZADD n INCR 1 v", "$1", "ZADD n 1 v", "k=5:5 n=v:1"}, {"ZINCRBY n 1 v", "$1", "ZADD n 1 v", "k=5:5 n=v:1"},
	} {
		checkFilled(t, filled(t, api.MaxKeys-1, "k=5:5"), api.RolePrimary,
			row{"65535", "ZREM n v", ":0", "", "k=5:5"}, row{"65535", x.args, x.reply, x.told, x.after},
			row{"65536", "ZADD m 1 v", "-FULL", "", "="}, row{"65536", "ZINCRBY m 1 v", "-FULL", "", "="},
		)
	}
}

// What looking takes out makes room; what is over and not looked at does not.
func TestAFullStoreOfWhatIsOver(t *testing.T) {
	t.Parallel()
	const before = "e=5:5@10 f:str@9 k=v:1,w:2"
	checkFilled(t, filled(t, api.MaxKeys, before), api.RolePrimary,
		row{"65536", "ZADD n 1 v", "-FULL", "", before},
		row{"65536", "ZADD e 1 x", ":1", "DEL e | ZADD e 1 x", "e=x:1 f:str@9 k=v:1,w:2"},
		row{"65536", "ZINCRBY f 1 x", "$1", "DEL f | ZADD f 1 x", "e=x:1 f=x:1 k=v:1,w:2"},
		row{"65536", "ZADD n 1 v", "-FULL", "", "="},
	)
	checkFilled(t, filled(t, api.MaxKeys, before), api.RolePrimary,
		row{"65536", "ZCARD f", ":0", "DEL f", "e=5:5@10 k=v:1,w:2"}, row{"65535", "ZADD n 1 v", ":1", "ZADD n 1 v", "e=5:5@10 k=v:1,w:2 n=v:1"}, row{"65536", "ZPOPMIN e", "[]", "DEL e", "k=v:1,w:2 n=v:1"},
	)
	checkFilled(t, filled(t, api.MaxKeys, before), api.RoleStream,
		row{"65536", "ZADD n 1 v", "-FULL", "", before}, row{"65536", "ZADD e 1 v", ":1", "ZADD e 1 v", "e=v:1,5:5@10 f:str@9 k=v:1,w:2"}, row{"65536", "ZADD f 1 v", "-WRONG", "", "="},
	)
	// For a reader there is room where what is over stands still.
	checkFilled(t, filled(t, api.MaxKeys, before), api.RoleReader,
		row{"65536", "ZADD n 1 v", "-FULL", "", before}, row{"65536", "ZADD e 1 v", ":1", "ZADD e 1 v", "e=v:1 f:str@9 k=v:1,w:2"}, row{"65536", "ZINCRBY f 1 v", "$1", "ZADD f 1 v", "e=v:1 f=v:1 k=v:1,w:2"},
	)
}

// LARGE

// pairsOf are the arguments of some members.
func pairsOf(l ...api.Scored) []string {
	var args []string
	for _, s := range l {
		args = append(args, strconv.FormatInt(s.N, 10), s.M)
	}
	return args
}

// A sorted set of so many members as may be, and of some less, to which some more come, and some that it has.
func TestAsManyMembersAsMayBe(t *testing.T) {
	t.Parallel()
	for _, n := range []int{65533, 65535, 65536} {
		before := []api.Entry{ends("k", api.Value{Kind: api.KZset, Z: scoredTexts(0, n)}, 11)}
		for more := range 5 {
			for _, known := range [][]api.Scored{nil, scoredTexts(0, 3), {{M: "1000000", N: 5}}} {
				if more+len(known) == 0 {
					continue
				}
				fresh := scoredTexts(70000, more)
				for _, pairs := range [][]string{pairsOf(slices.Concat(fresh, known)...), pairsOf(slices.Concat(known, fresh, fresh)...)} {
					c := api.Call{Role: api.RolePrimary, Now: 10, Args: append([]string{"ZADD", "k"}, pairs...)}
					newTrio(t, before).do(t, c)
					r, told := zsets.Do(load(t, before), c)
					want := ":" + strconv.Itoa(more)
					if n+more > 65536 {
						want = reply("-LARGE")
					}
					changes := n+more <= 65536 && (more > 0 || len(known) == 1)
					if show(r) != want || changes != (len(told) == 1) {
						t.Errorf("ZADD of %d more, and %d that it has, to %d = %s, told %d", more, len(known), n, show(r), len(told))
					}
				}
			}
		}
	}
}

func TestLarge(t *testing.T) {
	t.Parallel()
	most, less := ends("k", api.Value{Kind: api.KZset, Z: scoredTexts(0, 65536)}, 11), ends("k", api.Value{Kind: api.KZset, Z: scoredTexts(0, 65535)}, 11)
	for _, x := range []struct {
		before      api.Entry
		args, reply string
	}{
		{most, "ZADD k 5 x", "-LARGE"}, {most, "ZADD k NX 5 x", "-LARGE"}, {most, "ZADD k GT CH 5 x", "-LARGE"}, {most, "ZADD k XX 5 x", ":0"}, {most, "ZADD k 5 x 5 1000000", "-LARGE"}, {most, "ZADD k 5 1000000 6 1000001", ":0"}, {most, "ZADD k CH 5 1000000 6 1000001", ":2"}, {most, "ZADD k 5 1000000 0 1000000", ":0"}, {most, "ZADD k x x", "-NUMBER"}, {most, "ZADD k NX LT 1 x", "-SYNTAX"},
		{most, "ZADD k INCR 5 x", "-LARGE"}, {most, "ZINCRBY k 5 x", "-LARGE"}, {most, "ZINCRBY k 0 x", "-LARGE"}, {most, "ZINCRBY k 5 1000000", "$5"}, {most, "ZADD k XX INCR 5 x", "nil"}, {most, "ZINCRBY k 9223372036854775807 1000002", "-OVER"}, {less, "ZADD k 5 x", ":1"}, {less, "ZADD k 5 x 6 x", ":1"}, {less, "ZADD k 5 x 5 y", "-LARGE"}, {less, "ZINCRBY k 5 x", "$5"}, {less, "ZADD k INCR NX 5 x", "$5"},
		{most, "ZCARD k", ":65536"}, {most, "ZRANK k 1065535", ":65535"}, {most, "ZREVRANK k 1065535", ":0"}, {most, "ZSCORE k 1065535", "$32767"}, {most, "ZCOUNT k 1 (32767", ":65532"}, {most, "ZRANGE k 65535 65536", "[$1065535]"}, {most, "ZREVRANGE k 65534 -1 WITHSCORES", "[$1000001 $0 $1000000 $0]"}, {most, "ZRANGEBYSCORE k 0 inf LIMIT 65535 9", "[$1065535]"}, {most, "ZREM k 1000000 1065535 1065536", ":2"}, {most, "ZPOPMIN k", "[$1000000 $0]"}, {most, "ZPOPMAX k 1", "[$1065535 $32767]"}, {most, "ZREMRANGEBYRANK k 1 -2", ":65534"}, {most, "ZREMRANGEBYSCORE k -inf (32767", ":65534"},
	} {
		c := api.Call{Role: api.RolePrimary, Now: 10, Args: words(x.args)}
		newTrio(t, []api.Entry{x.before}).do(t, c)
		if r, _ := zsets.Do(load(t, []api.Entry{x.before}), c); show(r) != reply(x.reply) {
			t.Errorf("%s = %s; want %s", ask(c), short(show(r)), x.reply)
		}
	}
	for _, args := range []string{"ZRANGE k 0 -1 WITHSCORES", "ZREVRANGE k 0 -1", "ZRANGEBYSCORE k -inf inf WITHSCORES", "ZPOPMIN k 65536", "ZPOPMAX k 65537", "ZPOPMAX k 65535", "ZREMRANGEBYRANK k 0 -1", "ZREMRANGEBYSCORE k -inf inf"} {
		newTrio(t, []api.Entry{most}).do(t, api.Call{Role: api.RolePrimary, Now: 10, Args: words(args)})
	}
}

// FULL is found behind LARGE. A command has 511 pairs at most, so no new key can be too large; where a key is too large already there is no new one. So both errors never meet, but each is found behind all others.
func TestLargeAndFullOnAFullStore(t *testing.T) {
	t.Parallel()
	s := filled(t, api.MaxKeys-1, "l:set")
	if e := s.Put("000001", api.Value{Kind: api.KZset, Z: scoredTexts(0, 65536)}, api.Never); e != api.OK {
		t.Fatal(e)
	}
	checkFilled(t, s, api.RolePrimary,
		row{"65535", "ZADD 000001 1 x", "-LARGE", "", "="}, row{"65535", "ZADD n 1 x", ":1", "ZADD n 1 x", "l:set n=x:1"},
		row{"65536", "ZADD 000001 1 x", "-LARGE", "", "="}, row{"65536", "ZINCRBY 000001 1 x", "-LARGE", "", "="}, row{"65536", "ZADD 000001 1 1000000", ":0", "ZADD 000001 1 1000000", "="}, row{"65536", "ZADD m 1 x", "-FULL", "", "="}, row{"65536", "ZADD l 1 x", "-WRONG", "", "="},
	)
	args := append([]string{"ZADD", "m"}, pairsOf(scoredTexts(0, 511)...)...)
	if r, told := zsets.Do(s, api.Call{Role: api.RolePrimary, Args: args}); show(r) != reply("-FULL") || len(told) > 0 {
		t.Errorf("ZADD of 511 to a full store = %s", show(r))
	}
}

// Long rows go quickly, also of members that all stand on the lowest level of a skip list.
func TestLongRowsGoQuickly(t *testing.T) {
	t.Parallel()
	var low []api.Scored
	for i := 0; len(low) < 65536; i++ {
		if m := "m" + strconv.Itoa(i); skip.Level(0, m) == 1 {
			low = append(low, api.Scored{M: m, N: int64(i / 3)})
		}
	}
	for _, l := range [][]api.Scored{low, scoredTexts(0, 65536)} {
		before := []api.Entry{stay("k", api.Value{Kind: api.KZset, Z: l})}
		for _, args := range [][]string{
			{"ZPOPMIN", "k", "40000"}, {"ZPOPMAX", "k", "40000"}, {"ZREMRANGEBYRANK", "k", "10", "-10"}, {"ZREMRANGEBYSCORE", "k", "(10", "20000"}, {"ZREVRANGE", "k", "10", "-10"}, append([]string{"ZREM", "k"}, texts(l[65000:])...), append([]string{"ZADD", "k"}, pairsOf(scoredTexts(70000, 511)...)...),
		} {
			r, told := zsets.Do(load(t, before), api.Call{Role: api.RolePrimary, Args: args})
			if r.Kind == 0 || len(told) > 66 {
				t.Errorf("%s = %s", args[0], short(show(r)))
			}
		}
	}
}

// texts are the names of some members.
func texts(l []api.Scored) []string {
	var names []string
	for _, s := range l {
		names = append(names, s.M)
	}
	return names
}
