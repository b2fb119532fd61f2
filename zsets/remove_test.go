package zsets_test

import (
	"slices"
	"strconv"
	"testing"

	"millpond/api"
	"millpond/image"
	"millpond/zsets"
)

func TestRemove(t *testing.T) {
	const k = "k=c:-5,a:1,b:1,d:9@11"
	check(t, api.RolePrimary, 10,
		row{k, "ZREM k a", ":1", "ZREM k a", "k=c:-5,b:1,d:9@11"}, row{k, "zrem k d c", ":2", "ZREM k d c", "k=a:1,b:1@11"}, row{k, "ZREM k x b y '' b b", ":1", "ZREM k x b y '' b b", "k=c:-5,a:1,d:9@11"}, row{k, "ZREM k a a", ":1", "ZREM k a a", "k=c:-5,b:1,d:9@11"}, row{"k=:1,a:1", "ZREM k ''", ":1", "ZREM k ''", "k=a:1"},
		row{k, "ZREM k x", ":0", "", "="}, row{k, "ZREM k A '' x A", ":0", "", "="}, row{"", "ZREM k a b", ":0", "", "="},
		row{"k=a:1@11", "ZREM k a", ":1", "ZREM k a", ""}, row{k + " n=a:1", "ZREM k d x a b a c", ":4", "ZREM k d x a b a c", "n=a:1"},
	)
}

func TestPop(t *testing.T) {
	const k = "k=c:-5,a:1,b:1,d:9@11"
	check(t, api.RolePrimary, 10,
		row{k, "ZPOPMIN k", "[$c $-5]", "ZREM k c", "k=a:1,b:1,d:9@11"}, row{k, "zpopmax k", "[$d $9]", "ZREM k d", "k=c:-5,a:1,b:1@11"}, row{k, "ZPOPMIN k 1", "[$c $-5]", "ZREM k c", "k=a:1,b:1,d:9@11"}, row{k, "ZPOPMAX k 1", "[$d $9]", "ZREM k d", "k=c:-5,a:1,b:1@11"},
		row{k, "ZPOPMIN k 3", "[$c $-5 $a $1 $b $1]", "ZREM k c a b", "k=d:9@11"}, row{k, "ZPOPMAX k 3", "[$d $9 $b $1 $a $1]", "ZREM k d b a", "k=c:-5@11"}, row{k, "ZPOPMIN k 4", "[$c $-5 $a $1 $b $1 $d $9]", "ZREM k c a b d", ""}, row{k, "ZPOPMAX k 4", "[$d $9 $b $1 $a $1 $c $-5]", "ZREM k d b a c", ""}, row{k, "ZPOPMIN k 5", "[$c $-5 $a $1 $b $1 $d $9]", "ZREM k c a b d", ""}, row{k, "zPopMax k " + greatest, "[$d $9 $b $1 $a $1 $c $-5]", "ZREM k d b a c", ""},
		row{"k=a:1@11", "ZPOPMIN k", "[$a $1]", "ZREM k a", ""}, row{"k=a:1@11", "ZPOPMAX k", "[$a $1]", "ZREM k a", ""}, row{k, "ZPOPMIN k 0", "[]", "", "="}, row{k, "ZPOPMAX k 0", "[]", "", "="}, row{"", "ZPOPMIN k", "[]", "", "="}, row{"", "ZPOPMAX k", "[]", "", "="}, row{"", "ZPOPMIN k 5", "[]", "", "="}, row{"", "ZPOPMAX k 0", "[]", "", "="},
		row{k, "ZPOPMIN k -1", "-COUNT", "", "="}, row{k, "ZPOPMAX k " + least, "-COUNT", "", "="}, row{k, "ZPOPMIN k x", "-COUNT", "", "="}, row{k, "ZPOPMAX k ''", "-COUNT", "", "="}, row{k, "ZPOPMIN k 01", "-COUNT", "", "="}, row{k, "ZPOPMAX k 9223372036854775808", "-COUNT", "", "="}, row{k, "ZPOPMAX k -0", "-COUNT", "", "="}, row{"k:set", "ZPOPMIN k x", "-COUNT", "", "="}, row{"", "ZPOPMIN k -1", "-COUNT", "", "="},
		row{k, "ZPOPMIN k 1 1", "-SYNTAX", "", "="}, row{k, "ZPOPMAX k x y", "-SYNTAX", "", "="}, row{k, "ZPOPMAX k 1 1 1", "-SYNTAX", "", "="}, row{"k:set", "ZPOPMIN k -1 1", "-SYNTAX", "", "="}, row{"k:set", "ZPOPMAX k 1", "-WRONG", "", "="},
	)
}

func TestRemoveRanges(t *testing.T) {
	const k = "k=c:-5,a:1,b:1,d:9@11"
	check(t, api.RolePrimary, 10,
		row{k, "ZREMRANGEBYRANK k 0 0", ":1", "ZREM k c", "k=a:1,b:1,d:9@11"}, row{k, "zremrangebyrank k 1 2", ":2", "ZREM k a b", "k=c:-5,d:9@11"}, row{k, "ZREMRANGEBYRANK k -2 -1", ":2", "ZREM k b d", "k=c:-5,a:1@11"}, row{k, "ZREMRANGEBYRANK k 3 99", ":1", "ZREM k d", "k=c:-5,a:1,b:1@11"}, row{k, "ZREMRANGEBYRANK k -99 -4", ":1", "ZREM k c", "k=a:1,b:1,d:9@11"},
		row{k, "ZREMRANGEBYRANK k 0 -1", ":4", "ZREM k c a b d", ""}, row{k, "ZREMRANGEBYRANK k " + least + " " + greatest, ":4", "ZREM k c a b d", ""}, row{k, "ZREMRANGEBYRANK k 2 1", ":0", "", "="}, row{k, "ZREMRANGEBYRANK k 4 9", ":0", "", "="}, row{k, "ZREMRANGEBYRANK k -9 -5", ":0", "", "="}, row{"", "ZREMRANGEBYRANK k 0 -1", ":0", "", "="},
		row{k, "ZREMRANGEBYRANK k x 1", "-NUMBER", "", "="}, row{k, "ZREMRANGEBYRANK k 1 x", "-NUMBER", "", "="}, row{k, "ZREMRANGEBYRANK k (1 2", "-NUMBER", "", "="}, row{k, "ZREMRANGEBYRANK k -inf inf", "-NUMBER", "", "="}, row{"k:set", "ZREMRANGEBYRANK k 0 ''", "-NUMBER", "", "="},
		row{k, "ZREMRANGEBYSCORE k 1 1", ":2", "ZREM k a b", "k=c:-5,d:9@11"}, row{k, "zRemRangeByScore k (1 inf", ":1", "ZREM k d", "k=c:-5,a:1,b:1@11"}, row{k, "ZREMRANGEBYSCORE k -inf (9", ":3", "ZREM k c a b", "k=d:9@11"}, row{k, "ZREMRANGEBYSCORE k -inf +inf", ":4", "ZREM k c a b d", ""}, row{k, "ZREMRANGEBYSCORE k 9 -5", ":0", "", "="}, row{k, "ZREMRANGEBYSCORE k (-5 (1", ":0", "", "="}, row{k, "ZREMRANGEBYSCORE k 10 inf", ":0", "", "="}, row{"", "ZREMRANGEBYSCORE k -inf inf", ":0", "", "="},
	)
}

// scoredTexts are n members in order: numbers of seven digits, of which each two behind one another have one score.
func scoredTexts(from, n int) []api.Scored {
	l := make([]api.Scored, n)
	for i := range l {
		l[i] = api.Scored{M: strconv.Itoa(1000000 + from + i), N: int64((from + i) / 2)}
	}
	return l
}

// Long rows are told in commands of at most a thousand members, in the order in which they go.
func TestLongRows(t *testing.T) {
	t.Parallel()
	for _, n := range []int{1, 999, 1000, 1001, 1999, 2000, 2001, 3000} {
		for _, rest := range []int{0, 5} {
			l := scoredTexts(0, n+rest)
			before := []api.Entry{ends("k", api.Value{Kind: api.KZset, Z: l}, 11)}
			turned := slices.Clone(l)
			slices.Reverse(turned)
			count := strconv.Itoa(n)
			for _, x := range []struct {
				args []string
				gone []api.Scored
			}{
				{[]string{"ZPOPMIN", "k", count}, l[:n]}, {[]string{"ZPOPMAX", "k", count}, turned[:n]}, {[]string{"ZREMRANGEBYRANK", "k", "0", strconv.Itoa(n - 1)}, l[:n]}, {[]string{"ZREMRANGEBYRANK", "k", strconv.Itoa(rest), "-1"}, l[rest:]}, {[]string{"ZREMRANGEBYSCORE", "k", "-inf", strconv.Itoa((n+1)/2 - 1)}, l[:min(len(l), (n+1)/2*2)]},
			} {
				c := api.Call{Role: api.RolePrimary, Now: 10, Args: x.args}
				newTrio(t, before).do(t, c)
				s := load(t, before)
				_, told := zsets.Do(s, c)
				checkLongRow(t, x.args, told, x.gone)
				left, _ := s.Look("k")
				if image.Check(s.Image()) != api.OK || len(left.V.Z) != len(l)-len(x.gone) {
					t.Errorf("%q of %d leaves %d", x.args, len(l), len(left.V.Z))
				}
			}
		}
	}
}

// checkLongRow: what is told are commands ZREM of just these members, a thousand in each but the last.
func checkLongRow(t *testing.T, args []string, told [][]string, gone []api.Scored) {
	t.Helper()
	for i, command := range told {
		of := 1000
		if i == len(told)-1 {
			of = len(gone) - 1000*i
		}
		if len(command) != of+2 || of == 0 || command[0] != "ZREM" || command[1] != "k" {
			t.Fatalf("%q tells as its command %d one of %d words, that begins with %q", args, i, len(command), command[:2])
		}
		for j, member := range command[2:] {
			if member != gone[1000*i+j].M {
				t.Fatalf("%q tells %s at %d of command %d; want %s", args, member, j, i, gone[1000*i+j].M)
			}
		}
	}
	if len(told) != (len(gone)+999)/1000 {
		t.Fatalf("%q tells %d commands of %d members", args, len(told), len(gone))
	}
}

// ZREM of as many members as may be is one command, as it is.
func TestALongRemove(t *testing.T) {
	l := scoredTexts(0, 1500)
	before := []api.Entry{stay("k", api.Value{Kind: api.KZset, Z: l})}
	for _, n := range []int{999, 1000, 1001, 1022} {
		args := []string{"ZREM", "k"}
		for i := range n {
			args = append(args, l[(i*7)%1500].M)
		}
		c := api.Call{Role: api.RolePrimary, Args: args}
		newTrio(t, before).do(t, c)
		if r, told := zsets.Do(load(t, before), c); show(r) != ":"+strconv.Itoa(n) || !sameTold(told, [][]string{args}) {
			t.Errorf("ZREM of %d = %s, told %d", n, show(r), len(told))
		}
	}
}
