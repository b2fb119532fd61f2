package sets_test

import (
	"math"
	"slices"
	"strconv"
	"testing"

	"millpond/api"
	"millpond/image"
	"millpond/sets"
)

// drawRow is a call with a draw, and what is to come of it.
type drawRow struct {
	before, args string
	draw         uint64
	reply, told  string
	after        string
}

func checkDraws(t *testing.T, rows ...drawRow) {
	t.Helper()
	for _, x := range rows {
		checkCall(t, api.Call{Role: api.RolePrimary, Now: 10, Draw: x.draw, Args: words(x.args)}, entries(x.before), reply(x.reply), told(x.told), x.after)
	}
}

func TestPop(t *testing.T) {
	const k, greatest = "k=a,b,c@11", uint64(math.MaxUint64)
	checkDraws(t,
		drawRow{k, "SPOP k", 0, "$a", "SREM k a", "k=b,c@11"}, drawRow{k, "SPOP k", 1, "$b", "SREM k b", "k=a,c@11"}, drawRow{k, "SPOP k", 2, "$c", "SREM k c", "k=a,b@11"}, drawRow{k, "SPOP k", 3, "$a", "SREM k a", "k=b,c@11"}, drawRow{k, "spop k", 4, "$b", "SREM k b", "k=a,c@11"}, drawRow{k, "SPOP k", greatest, "$a", "SREM k a", "k=b,c@11"}, drawRow{k, "SPOP k", greatest - 1, "$c", "SREM k c", "k=a,b@11"}, drawRow{k, "SPOP k", 1 << 63, "$c", "SREM k c", "k=a,b@11"},
		drawRow{"k=a@11", "SPOP k", 7, "$a", "SREM k a", ""}, drawRow{"k=''", "sPoP k", greatest, "$", "SREM k ''", ""}, drawRow{"", "SPOP k", 7, "nil", "", "="}, drawRow{"k:list", "SPOP k", 7, "-WRONG", "", "="}, drawRow{"k:hash@11", "SPOP k", 0, "-WRONG", "", "="},
		// So many: in the reply as they are drawn, told rising.
		drawRow{k, "SPOP k 0", 5, "[]", "", "="}, drawRow{k, "SPOP k 1", 5, "[$c]", "SREM k c", "k=a,b@11"}, drawRow{k, "SPOP k 2", 5, "[$c $b]", "SREM k b c", "k=a@11"}, drawRow{k, "SPOP k 3", 5, "[$c $b $a]", "SREM k a b c", ""}, drawRow{k, "SPOP k 4", 5, "[$c $b $a]", "SREM k a b c", ""}, drawRow{k, "SPOP k 65536", 5, "[$c $b $a]", "SREM k a b c", ""}, drawRow{k, "SPOP k 65537", 5, "[$c $b $a]", "SREM k a b c", ""}, drawRow{k, "SPOP k 9223372036854775807", 5, "[$c $b $a]", "SREM k a b c", ""},
		drawRow{"k=a", "SPOP k 0", 0, "[]", "", "="}, drawRow{"k=a", "SPOP k 1", 0, "[$a]", "SREM k a", ""}, drawRow{"", "SPOP k 0", 0, "[]", "", "="}, drawRow{"", "SPOP k 5", 0, "[]", "", "="}, drawRow{"", "SPOP k 9223372036854775807", 0, "[]", "", "="},
		drawRow{k, "SPOP k -1", 0, "-NUMBER", "", "="}, drawRow{k, "SPOP k -1025", 0, "-NUMBER", "", "="}, drawRow{k, "SPOP k -9223372036854775808", 0, "-NUMBER", "", "="}, drawRow{"", "SPOP k -1", 0, "-NUMBER", "", "="}, drawRow{"k:list", "SPOP k -1", 0, "-NUMBER", "", "="}, drawRow{"k:list", "SPOP k x", 0, "-NUMBER", "", "="}, drawRow{"k:list", "SPOP k 0", 0, "-WRONG", "", "="}, drawRow{"k:zset", "SPOP k 65537", 0, "-WRONG", "", "="},
		drawRow{k, "SPOP k 1 1", 0, "-SYNTAX", "", "="}, drawRow{k, "SPOP k x y", 0, "-SYNTAX", "", "="}, drawRow{"", "SPOP k -1 1", 0, "-SYNTAX", "", "="}, drawRow{"k:list", "SPOP k 1 ''", 0, "-SYNTAX", "", "="}, drawRow{"k=a@10", "SPOP k 1 1 1", 0, "-SYNTAX", "", "="},
	)
}

func TestRandMember(t *testing.T) {
	const k, greatest = "k=a,b,c@11", uint64(math.MaxUint64)
	checkDraws(t,
		drawRow{k, "SRANDMEMBER k", 0, "$a", "", "="}, drawRow{k, "SRANDMEMBER k", 1, "$b", "", "="}, drawRow{k, "SRANDMEMBER k", 2, "$c", "", "="}, drawRow{k, "SRANDMEMBER k", 3, "$a", "", "="}, drawRow{k, "srandmember k", 4, "$b", "", "="}, drawRow{k, "SRANDMEMBER k", greatest, "$a", "", "="}, drawRow{k, "SRANDMEMBER k", greatest - 1, "$c", "", "="},
		drawRow{"k=''", "SRANDMEMBER k", 9, "$", "", "="}, drawRow{"", "SRANDMEMBER k", 7, "nil", "", "="}, drawRow{"k:list", "SRANDMEMBER k", 7, "-WRONG", "", "="}, drawRow{"k:str@11", "SRANDMEMBER k", 7, "-WRONG", "", "="},
		drawRow{k, "SRANDMEMBER k 0", 5, "[]", "", "="}, drawRow{k, "SRANDMEMBER k 1", 5, "[$c]", "", "="}, drawRow{k, "SRANDMEMBER k 2", 5, "[$c $b]", "", "="}, drawRow{k, "SRANDMEMBER k 3", 5, "[$c $b $a]", "", "="}, drawRow{k, "SRANDMEMBER k 4", 5, "[$c $b $a]", "", "="}, drawRow{k, "SRANDMEMBER k 65537", 5, "[$c $b $a]", "", "="}, drawRow{k, "SRANDMEMBER k 9223372036854775807", 5, "[$c $b $a]", "", "="},
		drawRow{k, "SRANDMEMBER k -1", 5, "[$c]", "", "="}, drawRow{k, "SRANDMEMBER k -4", 5, "[$c $a $b $a]", "", "="}, drawRow{"k=a", "SRANDMEMBER k -3", 5, "[$a $a $a]", "", "="}, drawRow{"", "SRANDMEMBER k -3", 5, "[]", "", "="}, drawRow{"", "SRANDMEMBER k -1024", 5, "[]", "", "="}, drawRow{"", "SRANDMEMBER k 0", 5, "[]", "", "="}, drawRow{"", "SRANDMEMBER k 3", 5, "[]", "", "="},
		drawRow{k, "SRANDMEMBER k -1025", 5, "-RANGE", "", "="}, drawRow{k, "SRANDMEMBER k -9223372036854775808", 5, "-RANGE", "", "="}, drawRow{"", "SRANDMEMBER k -1025", 5, "-RANGE", "", "="}, drawRow{"k:list", "SRANDMEMBER k -1025", 5, "-RANGE", "", "="}, drawRow{"k:list", "SRANDMEMBER k -1024", 5, "-WRONG", "", "="}, drawRow{"k:list", "SRANDMEMBER k 65537", 5, "-WRONG", "", "="}, drawRow{"k:list", "SRANDMEMBER k x", 5, "-NUMBER", "", "="},
		drawRow{k, "SRANDMEMBER k 1 1", 0, "-SYNTAX", "", "="}, drawRow{k, "SRANDMEMBER k x y", 0, "-SYNTAX", "", "="}, drawRow{"k:list", "SRANDMEMBER k -1025 1", 0, "-SYNTAX", "", "="}, drawRow{"k=a@10", "SRANDMEMBER k 1 withvalues", 0, "-SYNTAX", "", "="},
	)
}

// Numbers that are none.
func TestNoNumbers(t *testing.T) {
	for _, n := range []string{"", "x", "+1", "01", "-0", "1.0", "1 ", " 1", "0x1", "1e0", "٣", "00", "-", "9223372036854775808", "-9223372036854775809", "1\n", "--1", "-01"} {
		for _, key := range []string{"k", "n", "l", "o"} { // one that is over isn't looked at
			for _, name := range []string{"SPOP", "SRANDMEMBER", "spop", "srandmember"} {
				checkCall(t, api.Call{Role: api.RolePrimary, Now: 10, Args: []string{name, key, n}}, entries("k=a,b@11 l:list o=a@10"), reply("-NUMBER"), nil, "=")
			}
		}
	}
}

// draws are 0, some about how many members there are, and both ends.
func draws(n int) []uint64 {
	return []uint64{0, uint64(n - 1), uint64(n), uint64(n + 1), 12345678901234567890, math.MaxUint64, math.MaxUint64 - 1, 1 << 63}
}

// P14.5: what is drawn are members, with so many from 0 on each once at most; what SPOP told is no member any more.
func TestDraws(t *testing.T) {
	t.Parallel()
	for size := 1; size <= 9; size++ {
		before := []api.Entry{ends("k", set(texts(0, size)...), 11), stay("n", set("x"))}
		for _, draw := range draws(size) {
			for n := -size - 2; n <= size+2; n++ {
				for _, name := range []string{"SPOP", "SRANDMEMBER"} {
					if name == "SRANDMEMBER" || n >= 0 {
						checkDraw(t, before, size, n, api.Call{Role: api.RolePrimary, Now: 10, Draw: draw, Args: []string{name, "k", strconv.Itoa(n)}})
					}
					newTrio(t, before).do(t, api.Call{Role: api.RolePrimary, Now: 10, Draw: draw, Args: []string{name, "k", strconv.Itoa(n)}})
				}
			}
			newTrio(t, before).do(t, api.Call{Role: api.RolePrimary, Now: 10, Draw: draw, Args: []string{"SPOP", "k"}})
			newTrio(t, before).do(t, api.Call{Role: api.RolePrimary, Now: 10, Draw: draw, Args: []string{"SRANDMEMBER", "k"}})
		}
	}
}

// checkDraw checks what a call that draws n of a set of a size tells, and leaves.
func checkDraw(t *testing.T, before []api.Entry, size, n int, c api.Call) {
	t.Helper()
	s := load(t, before)
	r, _ := sets.Do(s, c)
	was, left := before[0].V.L, members(s.Image())
	want := min(max(n, 0), size)
	if n < 0 {
		want = -n
	}
	if r.Kind != api.RArray || len(r.L) != want {
		t.Fatalf("%s = %s", ask(c), show(r))
	}
	seen := map[string]int{}
	for _, one := range r.L {
		if one.Kind != api.RBulk || !slices.Contains(was, one.S) {
			t.Fatalf("%s of %q tells %s", ask(c), was, show(one))
		}
		if seen[one.S]++; n >= 0 && seen[one.S] > 1 {
			t.Fatalf("%s of %q tells %s twice", ask(c), was, one.S)
		}
		if c.Args[0] == "SPOP" == slices.Contains(left, one.S) {
			t.Fatalf("%s of %q leaves %q", ask(c), was, left)
		}
	}
	if goes := len(was) - len(left); c.Args[0] == "SPOP" && goes != want || c.Args[0] != "SPOP" && goes != 0 {
		t.Fatalf("%s of %q leaves %q", ask(c), was, left)
	}
}

// members are the members of k.
func members(l []api.Entry) []string {
	e, _ := image.Find(l, "k")
	return e.V.L
}

// As many members, each of which may come again, as there may be.
func TestDrawsAgain(t *testing.T) {
	for _, size := range []int{1, 2, 7, 1000} {
		for _, n := range []string{"-1", "-1023", "-1024", "-1025", "-1026"} {
			for _, draw := range draws(size) {
				newTrio(t, []api.Entry{ends("k", set(texts(0, size)...), 11)}).do(t, api.Call{Role: api.RolePrimary, Now: 10, Draw: draw, Args: []string{"srandmember", "k", n}})
			}
		}
	}
}

// A long row is told in commands of at most a thousand members.
func TestPopOfALongRow(t *testing.T) {
	t.Parallel()
	for _, n := range []int{1, 999, 1000, 1001, 1999, 2000, 2001, 3000, 3001} {
		for _, more := range []int{0, 1, 500} {
			before := []api.Entry{ends("k", set(texts(0, n+more)...), 11)}
			for i, draw := range []uint64{0, 12345678901234567890} {
				c := api.Call{Role: api.RolePrimary, Now: 10, Draw: draw, Args: []string{"SPOP", "k", strconv.Itoa(n)}}
				if more == 0 && i == 1 {
					c.Args[2] = "9223372036854775807"
				}
				r, told := sets.Do(load(t, before), c)
				checkRow(t, ask(c), told, "SREM", n)
				if len(r.L) != n {
					t.Errorf("%s tells %d", ask(c), len(r.L))
				}
				newTrio(t, before).do(t, c)
			}
		}
	}
}

// checkRow: does told tell n members of k by commands of a name, all of a thousand but the last one, rising?
func checkRow(t *testing.T, done string, told [][]string, name string, n int) {
	t.Helper()
	var l []string
	for i, one := range told {
		if one[0] != name || one[1] != "k" || len(one) != 1002 && i != len(told)-1 || len(one) > 1002 || len(one) < 3 {
			t.Errorf("%s tells %s %s and %d more", done, one[0], one[1], len(one)-2)
			return
		}
		l = append(l, one[2:]...)
	}
	if len(l) != n || !slices.IsSorted(l) || len(slices.Compact(l)) != n {
		t.Errorf("%s tells %d members; want %d that rise", done, len(l), n)
	}
}
