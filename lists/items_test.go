package lists_test

import (
	"strconv"
	"testing"

	"millpond/api"
)

func TestLen(t *testing.T) {
	check(t, api.RolePrimary, 10,
		row{"", "LLEN k", ":0", "", "="}, row{"k=a", "LLEN k", ":1", "", "="}, row{"k=a,a,''@11", "llen k", ":3", "", "="}, row{"k=a@10", "LLEN k", ":0", "DEL k", ""}, row{"k:str", "LLEN k", "-WRONG", "", "="}, row{"k:set", "LLEN k", "-WRONG", "", "="}, row{"k:zset", "LLEN k", "-WRONG", "", "="}, row{"k:hash@11", "LLEN k", "-WRONG", "", "="},
	)
}

func TestRangeAndIndex(t *testing.T) {
	check(t, api.RolePrimary, 10,
		row{"k=a,b,c", "LRANGE k 0 -1", "[$a $b $c]", "", "="}, row{"k=a,b,c", "LRANGE k 1 1", "[$b]", "", "="}, row{"k=a,b,c", "lrange k -2 9", "[$b $c]", "", "="}, row{"k=a,b,c", "LRANGE k 2 1", "[]", "", "="}, row{"k=a,b,c", "LRANGE k 3 9", "[]", "", "="}, row{"k=a,b,c", "LRANGE k -9 0", "[$a]", "", "="}, row{"", "LRANGE k 0 -1", "[]", "", "="},
		row{"k=a,b,c", "LINDEX k 0", "$a", "", "="}, row{"k=a,b,c", "LINDEX k 2", "$c", "", "="}, row{"k=a,b,c", "lindex k -1", "$c", "", "="}, row{"k=a,b,c", "LINDEX k -3", "$a", "", "="}, row{"k=a,b,c", "LINDEX k 3", "nil", "", "="}, row{"k=a,b,c", "LINDEX k -4", "nil", "", "="}, row{"", "LINDEX k 0", "nil", "", "="}, row{"k=''", "LINDEX k 0", "$", "", "="},
		row{"k:str", "LRANGE k 0 -1", "-WRONG", "", "="}, row{"k:set", "LINDEX k 0", "-WRONG", "", "="}, row{"k:set", "LRANGE k 0 x", "-NUMBER", "", "="}, row{"k:set", "LRANGE k x 0", "-NUMBER", "", "="}, row{"k:set", "LINDEX k x", "-NUMBER", "", "="},
	)
}

func TestSet(t *testing.T) {
	check(t, api.RolePrimary, 10,
		row{"k=a,b,c@11", "LSET k 0 x", "+OK", "LSET k 0 x", "k=x,b,c@11"}, row{"k=a,b,c", "LSET k 2 x", "+OK", "LSET k 2 x", "k=a,b,x"}, row{"k=a,b,c", "lset k -1 ''", "+OK", "LSET k -1 ''", "k=a,b,''"}, row{"k=a,b,c", "LSET k -3 b", "+OK", "LSET k -3 b", "k=b,b,c"},
		row{"k=a,b,c", "LSET k 0 a", "+OK", "", "="}, row{"k=a,b,c@11", "LSET k -1 c", "+OK", "", "="}, row{"k=''", "LSET k 0 ''", "+OK", "", "="},
		row{"k=a,b,c", "LSET k 3 x", "-INDEX", "", "="}, row{"k=a,b,c", "LSET k -4 x", "-INDEX", "", "="}, row{"k=a,b,c", "LSET k -4 a", "-INDEX", "", "="},
		row{"", "LSET k 0 x", "-NOKEY", "", "="}, row{"", "LSET k 9 x", "-NOKEY", "", "="}, row{"k:set", "LSET k 0 x", "-WRONG", "", "="}, row{"k:set", "LSET k 9 x", "-WRONG", "", "="}, row{"k:set", "LSET k x x", "-NUMBER", "", "="}, row{"", "LSET k x x", "-NUMBER", "", "="}, row{"k=a@10", "LSET k 0 x", "-NOKEY", "DEL k", ""},
	)
}

func TestRem(t *testing.T) {
	const k = "k=a,b,a,c,a,b@11"
	check(t, api.RolePrimary, 10,
		row{k, "LREM k 1 a", ":1", "LREM k 1 a", "k=b,a,c,a,b@11"}, row{k, "LREM k 2 a", ":2", "LREM k 2 a", "k=b,c,a,b@11"}, row{k, "LREM k 3 a", ":3", "LREM k 3 a", "k=b,c,b@11"}, row{k, "lrem k 4 a", ":3", "LREM k 4 a", "k=b,c,b@11"}, row{k, "LREM k 9223372036854775807 a", ":3", "LREM k 9223372036854775807 a", "k=b,c,b@11"},
		row{k, "LREM k -1 a", ":1", "LREM k -1 a", "k=a,b,a,c,b@11"}, row{k, "LREM k -2 a", ":2", "LREM k -2 a", "k=a,b,c,b@11"}, row{k, "LREM k -3 a", ":3", "LREM k -3 a", "k=b,c,b@11"}, row{k, "LREM k -9 a", ":3", "LREM k -9 a", "k=b,c,b@11"}, row{k, "LREM k -9223372036854775808 b", ":2", "LREM k -9223372036854775808 b", "k=a,a,c,a@11"}, row{k, "LREM k -9223372036854775807 b", ":2", "LREM k -9223372036854775807 b", "k=a,a,c,a@11"},
		row{k, "LREM k 0 a", ":3", "LREM k 0 a", "k=b,c,b@11"}, row{k, "LREM k 0 c", ":1", "LREM k 0 c", "k=a,b,a,a,b@11"}, row{k, "LREM k 0 x", ":0", "", "="}, row{k, "LREM k 5 x", ":0", "", "="}, row{k, "LREM k -5 ''", ":0", "", "="},
		row{"k=a,a@11", "LREM k 0 a", ":2", "LREM k 0 a", ""}, row{"k=a,a", "LREM k 2 a", ":2", "LREM k 2 a", ""}, row{"k=a,a", "LREM k -3 a", ":2", "LREM k -3 a", ""}, row{"k=a,a", "LREM k -1 a", ":1", "LREM k -1 a", "k=a"}, row{"k=''", "LREM k 1 ''", ":1", "LREM k 1 ''", ""},
		row{"", "LREM k 0 a", ":0", "", "="}, row{"k=a@10", "LREM k 0 a", ":0", "DEL k", ""}, row{"k:set", "LREM k 0 a", "-WRONG", "", "="}, row{"k:set", "LREM k x a", "-NUMBER", "", "="}, row{"", "LREM k 01 a", "-NUMBER", "", "="},
	)
}

func TestTrim(t *testing.T) {
	const k = "k=a,b,c,d@11"
	check(t, api.RolePrimary, 10,
		row{k, "LTRIM k 0 -1", "+OK", "", "="}, row{k, "LTRIM k -9 9", "+OK", "", "="}, row{k, "LTRIM k 0 3", "+OK", "", "="}, row{k, "LTRIM k -4 -1", "+OK", "", "="},
		row{k, "LTRIM k 1 -1", "+OK", "LTRIM k 1 -1", "k=b,c,d@11"}, row{k, "LTRIM k 0 2", "+OK", "LTRIM k 0 2", "k=a,b,c@11"}, row{k, "ltrim k 1 2", "+OK", "LTRIM k 1 2", "k=b,c@11"}, row{k, "LTRIM k -1 99", "+OK", "LTRIM k -1 99", "k=d@11"}, row{k, "LTRIM k -99 0", "+OK", "LTRIM k -99 0", "k=a@11"},
		row{k, "LTRIM k 4 9", "+OK", "LTRIM k 4 9", ""}, row{k, "LTRIM k 2 1", "+OK", "LTRIM k 2 1", ""}, row{k, "LTRIM k 0 -5", "+OK", "LTRIM k 0 -5", ""}, row{k, "LTRIM k 9223372036854775807 -9223372036854775808", "+OK", "LTRIM k 9223372036854775807 -9223372036854775808", ""}, row{k, "LTRIM k -9223372036854775808 9223372036854775807", "+OK", "", "="},
		row{"", "LTRIM k 1 0", "+OK", "", "="}, row{"", "LTRIM k 0 -1", "+OK", "", "="}, row{"k=a@10", "LTRIM k 1 0", "+OK", "DEL k", ""}, row{"k:set", "LTRIM k 0 -1", "-WRONG", "", "="}, row{"k:set", "LTRIM k 0 x", "-NUMBER", "", "="}, row{"k:set", "LTRIM k x 0", "-NUMBER", "", "="}, row{"", "LTRIM k '' 0", "-NUMBER", "", "="},
	)
}

func TestInsert(t *testing.T) {
	const k = "k=a,b,a,b@11"
	check(t, api.RolePrimary, 10,
		row{k, "LINSERT k BEFORE a x", ":5", "LINSERT k BEFORE a x", "k=x,a,b,a,b@11"}, row{k, "LINSERT k AFTER a x", ":5", "LINSERT k AFTER a x", "k=a,x,b,a,b@11"}, row{k, "LINSERT k BEFORE b x", ":5", "LINSERT k BEFORE b x", "k=a,x,b,a,b@11"}, row{k, "LINSERT k AFTER b x", ":5", "LINSERT k AFTER b x", "k=a,b,x,a,b@11"},
		row{"k=a", "linsert k before a a", ":2", "LINSERT k before a a", "k=a,a"}, row{"k=a", "linsert k aFTer a ''", ":2", "LINSERT k aFTer a ''", "k=a,''"}, row{"k='',a", "linsert k BEFORE '' x", ":3", "LINSERT k BEFORE '' x", "k=x,'',a"},
		row{k, "LINSERT k BEFORE x y", ":-1", "", "="}, row{k, "LINSERT k AFTER A y", ":-1", "", "="}, row{k, "LINSERT k AFTER '' ''", ":-1", "", "="}, row{"", "LINSERT k BEFORE x y", ":0", "", "="}, row{"k=a@10", "LINSERT k BEFORE a y", ":0", "DEL k", ""},
		row{k, "LINSERT k BY a y", "-SYNTAX", "", "="}, row{k, "LINSERT k '' a y", "-SYNTAX", "", "="}, row{k, "LINSERT k BEFOREa a y", "-SYNTAX", "", "="}, row{"k:set", "LINSERT k AFTE a y", "-SYNTAX", "", "="}, row{"", "LINSERT k a AFTER y", "-SYNTAX", "", "="}, row{"k=a@10", "LINSERT k a a y", "-SYNTAX", "", "="}, row{k, "LINSERT k bef\u00f6re a y", "-SYNTAX", "", "="},
		row{"k:set", "LINSERT k BEFORE a y", "-WRONG", "", "="}, row{"k:hash@11", "LINSERT k AFTER a y", "-WRONG", "", "="},
	)
}

// numbers are places near either end of a list of so many items, beyond both, and at both ends of 64 bits.
func numbers(n int) []string {
	l := []string{"-9223372036854775808", "-9223372036854775807", "9223372036854775806", "9223372036854775807", "4294967296", "-4294967296", "2147483648", "-2147483649"}
	for i := -n - 2; i <= n+2; i++ {
		l = append(l, strconv.Itoa(i))
	}
	return l
}

// shortLists are all lists of up to five items that are a or b.
func shortLists() [][]string {
	all := [][]string{nil}
	for from := 0; len(all) < 63; from++ {
		for _, item := range []string{"a", "b"} {
			all = append(all, append(append([]string(nil), all[from]...), item))
		}
	}
	return all
}

// At every place near either end, beyond both, the wrong way round, of each short list.
func TestEveryPlace(t *testing.T) {
	t.Parallel()
	for _, items := range shortLists() {
		var before []api.Entry
		if len(items) > 0 {
			before = []api.Entry{ends("k", list(items...), 11)}
		}
		do := func(args ...string) {
			newTrio(t, before).do(t, api.Call{Role: api.RolePrimary, Now: 10, Args: args})
		}
		for _, a := range numbers(len(items)) {
			do("LINDEX", "k", a)
			do("LSET", "k", a, "a")
			do("LSET", "k", a, "c")
			do("LREM", "k", a, "a")
			do("LREM", "k", a, "b")
			do("LPOP", "k", a)
			do("RPOP", "k", a)
			for _, b := range numbers(len(items)) {
				do("LRANGE", "k", a, b)
				do("LTRIM", "k", a, b)
			}
		}
		for _, by := range []string{"a", "b", "c"} {
			do("LINSERT", "k", "BEFORE", by, "x")
			do("LINSERT", "k", "AFTER", by, "x")
		}
	}
}

// Numbers that are none, at each place that takes one.
func TestNoNumbers(t *testing.T) {
	for _, n := range []string{"", "x", "+1", "01", "-0", "1.0", "1 ", " 1", "0x1", "1e0", "٣", "00", "-", "9223372036854775808", "-9223372036854775809", "1\n", "--1"} {
		for _, key := range []string{"k", "n", "l", "o"} { // one that is over isn't looked at
			for _, args := range [][]string{{"LRANGE", key, n, "0"}, {"LRANGE", key, "0", n}, {"LINDEX", key, n}, {"LSET", key, n, "x"}, {"LREM", key, n, "a"}, {"LTRIM", key, n, "0"}, {"LTRIM", key, "0", n}} {
				checkCall(t, api.Call{Role: api.RolePrimary, Now: 10, Args: args}, entries("k=a,b@11 l:set o=a@10"), reply("-NUMBER", ""), nil, "=")
			}
		}
	}
}
