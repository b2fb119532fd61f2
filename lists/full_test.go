package lists_test

import (
	"fmt"
	"slices"
	"strconv"
	"testing"

	"millpond/api"
	"millpond/image"
	"millpond/lists"
	"millpond/space"
)

// filled is a space with so many keys: some that are named here, and numbers of six digits.
func filled(t *testing.T, n int, named string) *space.Space {
	t.Helper()
	l := entries(named)
	for i := range n - len(l) {
		l = append(l, stay(fmt.Sprintf("%06d", i), list("v")))
	}
	return load(t, l)
}

// stands: does a key stand in a space just as entries tell, or not, if they do not tell of it?
func stands(t *testing.T, done string, s *space.Space, key string, l []api.Entry) {
	t.Helper()
	want, there := image.Find(l, key)
	if got, ok := s.Look(key); ok != there || !image.Same([]api.Entry{got}, []api.Entry{want}) {
		t.Errorf("behind %s: Look of %s = %v, %t; want %v", done, key, got, ok, want)
	}
}

// names are the keys of these tests, beside the numbers.
const names = "a b c e f k l n m o"

// checkFilled does the calls of rows on one space, one behind the other: before is how many keys there are then; of those that have names the rest tells.
func checkFilled(t *testing.T, s *space.Space, role api.Role, rows ...row) {
	t.Helper()
	for _, x := range rows {
		args := words(x.args)
		if got := fmt.Sprint(s.Len()); got != x.before {
			t.Errorf("ahead of %s there are %s keys; want %s", x.args, got, x.before)
		}
		was := map[string]api.Entry{}
		for _, key := range words(names) {
			if e, there := s.Look(key); there {
				was[key] = e
			}
		}
		r, got := lists.Do(s, api.Call{Role: role, Now: 10, Args: args})
		if show(r) != reply(x.reply, args[0]) || !sameTold(got, told(x.told)) {
			t.Errorf("%s, of %s keys, = %s, told %s; want %s, told %s", x.args, x.before, show(r), wroteTold(got), x.reply, x.told)
		}
		for _, key := range words(names) {
			l := entries(x.after)
			if x.after == "=" {
				l = []api.Entry{was[key]}
			}
			stands(t, x.args, s, key, l)
		}
	}
}

// On a full store: what is there may be another, what is new may not be.
func TestAFullStore(t *testing.T) {
	t.Parallel()
	const k = "k=5,6 l:str o=7"
	checkFilled(t, filled(t, api.MaxKeys, k), api.RolePrimary,
		row{"65536", "LPUSH n v", "-FULL", "", k}, row{"65536", "LPUSH n v w", "-FULL", "", k}, row{"65536", "RPUSH n v", "-FULL", "", k}, row{"65536", "LPUSHX n v", ":0", "", k}, row{"65536", "RPUSHX n v", ":0", "", k}, row{"65536", "LPUSH l v", "-WRONG", "", k},
		row{"65536", "LPOP n", "nil", "", k}, row{"65536", "RPOP n 1", "nilarray", "", k}, row{"65536", "LLEN n", ":0", "", k}, row{"65536", "LSET n 0 v", "-NOKEY", "", k}, row{"65536", "LTRIM n 0 0", "+OK", "", k}, row{"65536", "LREM n 0 v", ":0", "", k}, row{"65536", "LINSERT n BEFORE v w", ":0", "", k},
		// What has items left makes no room; what has none does.
		row{"65536", "LMOVE k n LEFT LEFT", "-FULL", "", k}, row{"65536", "LMOVE k n RIGHT LEFT", "-FULL", "", k}, row{"65536", "RPOPLPUSH k n", "-FULL", "", k}, row{"65536", "LMOVE k n LEFT MIDDLE", "-SYNTAX", "", k}, row{"65536", "LMOVE k l LEFT LEFT", "-WRONG", "", k}, row{"65536", "LMOVE n m LEFT LEFT", "nil", "", k},
		row{"65536", "LMOVE o n LEFT LEFT", "$7", "LMOVE o n LEFT LEFT", "k=5,6 l:str n=7"}, row{"65536", "RPOPLPUSH n o", "$7", "LMOVE n o RIGHT LEFT", k},
		// What is there may be another.
		row{"65536", "LPUSH k 4", ":3", "LPUSH k 4", "k=4,5,6 l:str o=7"}, row{"65536", "RPUSHX k 4", ":4", "RPUSH k 4", "k=4,5,6,4 l:str o=7"}, row{"65536", "LMOVE k k LEFT RIGHT", "$4", "LMOVE k k LEFT RIGHT", "k=5,6,4,4 l:str o=7"}, row{"65536", "LMOVE k o LEFT RIGHT", "$5", "LMOVE k o LEFT RIGHT", "k=6,4,4 l:str o=7,5"}, row{"65536", "LINSERT k AFTER 6 7", ":4", "LINSERT k AFTER 6 7", "k=6,7,4,4 l:str o=7,5"}, row{"65536", "LSET k 0 9", "+OK", "LSET k 0 9", "k=9,7,4,4 l:str o=7,5"},
		row{"65536", "LTRIM o 1 0", "+OK", "LTRIM o 1 0", "k=9,7,4,4 l:str"}, row{"65535", "RPOPLPUSH k n", "$4", "LMOVE k n RIGHT LEFT", "k=9,7,4 l:str n=4"}, row{"65536", "LPUSH o v", "-FULL", "", "="}, row{"65536", "LMOVE k m LEFT LEFT", "-FULL", "", "="},
	)
}

// The last free key, and one behind it.
func TestTheLastFreeKey(t *testing.T) {
	t.Parallel()
	for _, x := range []struct{ args, reply, told, after string }{
		{"LPUSH n v w", ":2", "LPUSH n v w", "k=5,6 n=w,v"}, {"RPUSH n v", ":1", "RPUSH n v", "k=5,6 n=v"}, {"LMOVE k n LEFT RIGHT", "$5", "LMOVE k n LEFT RIGHT", "k=6 n=5"}, {"RPOPLPUSH k n", "$6", "LMOVE k n RIGHT LEFT", "k=5 n=6"},
	} {
		checkFilled(t, filled(t, api.MaxKeys-1, "k=5,6"), api.RolePrimary,
			row{"65535", "LPUSHX n v", ":0", "", "k=5,6"}, row{"65535", x.args, x.reply, x.told, x.after},
			row{"65536", "LPUSH m v", "-FULL", "", "="}, row{"65536", "RPUSH m v w", "-FULL", "", "="},
		)
	}
}

// What looking takes out makes room; what is over and not looked at does not.
func TestAFullStoreOfWhatIsOver(t *testing.T) {
	t.Parallel()
	const before = "e=5@10 f:str@9 k=v,w"
	checkFilled(t, filled(t, api.MaxKeys, before), api.RolePrimary,
		row{"65536", "LPUSH n v", "-FULL", "", before}, row{"65536", "LMOVE k n LEFT LEFT", "-FULL", "", before},
		row{"65536", "RPUSH e x", ":1", "DEL e | RPUSH e x", "e=x f:str@9 k=v,w"},
		row{"65536", "LMOVE k f LEFT LEFT", "$v", "DEL f | LMOVE k f LEFT LEFT", "e=x f=v k=w"},
		row{"65536", "LPUSH n v", "-FULL", "", "="},
	)
	checkFilled(t, filled(t, api.MaxKeys, before), api.RolePrimary,
		row{"65536", "LLEN f", ":0", "DEL f", "e=5@10 k=v,w"}, row{"65535", "RPOPLPUSH k n", "$w", "LMOVE k n RIGHT LEFT", "e=5@10 k=v n=w"}, row{"65536", "RPOPLPUSH e m", "nil", "DEL e", "k=v n=w"},
	)
	checkFilled(t, filled(t, api.MaxKeys, before), api.RoleStream,
		row{"65536", "LPUSH n v", "-FULL", "", before}, row{"65536", "LPUSH e v", ":2", "LPUSH e v", "e=v,5@10 f:str@9 k=v,w"}, row{"65536", "RPOPLPUSH e n", "-FULL", "", "="}, row{"65536", "RPOPLPUSH e f", "-WRONG", "", "="},
	)
	// For a reader there is room where what is over stands still.
	checkFilled(t, filled(t, api.MaxKeys, before), api.RoleReader,
		row{"65536", "LPUSH n v", "-FULL", "", before}, row{"65536", "LMOVE k n LEFT LEFT", "-FULL", "", before}, row{"65536", "LPUSH e v", ":1", "LPUSH e v", "e=v f:str@9 k=v,w"}, row{"65536", "LMOVE k f LEFT RIGHT", "$v", "LMOVE k f LEFT RIGHT", "e=v f=v k=w"},
	)
}

// LARGE

// items are so many items, which are not all alike.
func items(n int) []string {
	l := make([]string, n)
	for i := range l {
		l[i] = strconv.Itoa(i % 1000)
	}
	return l
}

// A list of so many items as may be, and of some less, to which some more come.
func TestAsManyItemsAsMayBe(t *testing.T) {
	t.Parallel()
	for _, n := range []int{65533, 65534, 65535, 65536} {
		for _, args := range [][]string{
			{"LPUSH", "k"}, {"RPUSH", "k"}, {"LPUSHX", "k"}, {"rpushx", "k"},
		} {
			for more := 1; more <= 4; more++ {
				x := newTrio(t, []api.Entry{ends("k", list(items(n)...), 11)})
				x.do(t, api.Call{Role: api.RolePrimary, Now: 10, Args: append(slices.Clone(args), items(more)...)})
				r, told := lists.Do(load(t, []api.Entry{ends("k", list(items(n)...), 11)}), api.Call{Role: api.RolePrimary, Now: 10, Args: append(slices.Clone(args), items(more)...)})
				if isLarge := n+more > 65536; isLarge != (show(r) == reply("-LARGE", "")) || isLarge != (len(told) == 0) {
					t.Errorf("%q of %d more to %d = %s, told %d", args, more, n, show(r), len(told))
				}
			}
		}
	}
}

func TestLarge(t *testing.T) {
	t.Parallel()
	most, less := ends("k", list(items(65536)...), 11), ends("k", list(items(65535)...), 11)
	two, one, other := stay("n", list("x", "y")), stay("n", list("x")), stay("n", api.Value{Kind: api.KString, S: "x"})
	for _, x := range []struct {
		before []api.Entry
		args   string
		reply  string
	}{
		{[]api.Entry{most}, "LINSERT k BEFORE 0 x", "-LARGE"}, {[]api.Entry{most}, "LINSERT k AFTER 999 x", "-LARGE"}, {[]api.Entry{most}, "LINSERT k AFTER none x", ":-1"}, {[]api.Entry{most}, "LINSERT k BY 0 x", "-SYNTAX"}, {[]api.Entry{less}, "LINSERT k AFTER 999 x", ":65536"}, {[]api.Entry{less}, "LINSERT k BEFORE 0 x", ":65536"},
		{[]api.Entry{most, two}, "LMOVE n k LEFT LEFT", "-LARGE"}, {[]api.Entry{most, one}, "LMOVE n k LEFT RIGHT", "-LARGE"}, {[]api.Entry{most, two}, "RPOPLPUSH n k", "-LARGE"}, {[]api.Entry{most, one}, "RPOPLPUSH n k", "-LARGE"}, {[]api.Entry{less, two}, "LMOVE n k LEFT LEFT", "$x"}, {[]api.Entry{less, one}, "RPOPLPUSH n k", "$x"}, {[]api.Entry{less, two}, "LMOVE n k RIGHT RIGHT", "$y"},
		{[]api.Entry{most, two}, "LMOVE k n LEFT LEFT", "$0"}, {[]api.Entry{most, two}, "LMOVE k k LEFT RIGHT", "$0"}, {[]api.Entry{most}, "RPOPLPUSH k k", "$535"}, {[]api.Entry{most}, "LMOVE k k LEFT LEFT", "$0"}, {[]api.Entry{most, other}, "LMOVE n k LEFT LEFT", "-WRONG"}, {[]api.Entry{most}, "LMOVE n k LEFT LEFT", "nil"}, {[]api.Entry{most, two}, "LMOVE n k LEFT MIDDLE", "-SYNTAX"},
		{[]api.Entry{most}, "LSET k 65535 x", "+OK"}, {[]api.Entry{most}, "LSET k -65537 x", "-INDEX"}, {[]api.Entry{most}, "LINDEX k -65536", "$0"}, {[]api.Entry{most}, "LINDEX k 65536", "nil"}, {[]api.Entry{most}, "LLEN k", ":65536"}, {[]api.Entry{most}, "LREM k -40 999", ":40"}, {[]api.Entry{most}, "LREM k 0 7", ":66"}, {[]api.Entry{most}, "LTRIM k 30000 -30000", "+OK"}, {[]api.Entry{most}, "RPOP k", "$535"}, {[]api.Entry{most}, "LRANGE k 65535 65536", "[$535]"},
	} {
		c := api.Call{Role: api.RolePrimary, Now: 10, Args: words(x.args)}
		newTrio(t, x.before).do(t, c)
		if r, _ := lists.Do(load(t, x.before), c); show(r) != reply(x.reply, c.Args[0]) {
			t.Errorf("%s = %s; want %s", ask(c), short(show(r)), x.reply)
		}
	}
	for _, args := range [][]string{{"LPOP", "k", "65536"}, {"RPOP", "k", "65537"}, {"LRANGE", "k", "0", "-1"}, {"LPOP", "k", "65535"}} {
		newTrio(t, []api.Entry{most}).do(t, api.Call{Role: api.RolePrimary, Now: 10, Args: args})
	}
}

// Long lists go quickly: nothing goes through a list once for each of its items.
func TestLongListsGoQuickly(t *testing.T) {
	t.Parallel()
	l := make([]string, 65536)
	for i := range l {
		l[i] = strconv.Itoa(i % 2)
	}
	for _, args := range [][]string{{"LREM", "k", "0", "1"}, {"LREM", "k", "-32768", "0"}, {"LREM", "k", "32767", "1"}, {"LTRIM", "k", "32768", "-1"}, {"LPOP", "k", "40000"}, {"RPOP", "k", "40000"}} {
		newTrio(t, []api.Entry{stay("k", list(l...))}).do(t, api.Call{Role: api.RolePrimary, Args: args})
	}
}
