package zsets_test

import (
	"slices"
	"strconv"
	"strings"
	"testing"

	"millpond/api"
)

const (
	least    = "-9223372036854775808"
	greatest = "9223372036854775807"
)

func TestAdd(t *testing.T) {
	check(t, api.RolePrimary, 10,
		row{"", "ZADD k 1 a", ":1", "ZADD k 1 a", "k=a:1"}, row{"", "ZADD k 2 b 1 a 1 c", ":3", "ZADD k 2 b 1 a 1 c", "k=a:1,c:1,b:2"}, row{"", "ZADD k 0 ''", ":1", "ZADD k 0 ''", "k=:0"}, row{"", "zadd '' 1 a", ":1", "ZADD '' 1 a", "=a:1"},
		row{"k=b:1@11", "ZADD k 1 a", ":1", "ZADD k 1 a", "k=a:1,b:1@11"}, row{"k=b:1@11", "ZADD k 1 b", ":0", "", "="}, row{"k=b:1@11", "ZADD k 2 b", ":0", "ZADD k 2 b", "k=b:2@11"}, row{"k=a:1,b:2@11", "ZADD k 1 a 3 b 4 c 2 b", ":1", "ZADD k 3 b 4 c 2 b", "k=a:1,b:2,c:4@11"},
		row{"k=x:1", "ZADD K 1 a", ":1", "ZADD K 1 a", "K=a:1 k=x:1"}, row{"k=a:1", "ZADD k 1 A", ":1", "ZADD k 1 A", "k=A:1,a:1"}, row{"k=10:1", "ZADD k 1 9 1 \xff 1 \u00e4", ":3", "ZADD k 1 9 1 \xff 1 \u00e4", "k=10:1,9:1,\u00e4:1,\xff:1"},
		// Both ends of 64 bits, and one beyond.
		row{"k=a:1", "ZADD k " + least + " a " + greatest + " b", ":1", "ZADD k " + least + " a " + greatest + " b", "k=a:" + least + ",b:" + greatest}, row{"k=a:1", "ZADD k -9223372036854775809 a", "-NUMBER", "", "="}, row{"k=a:1", "ZADD k 9223372036854775808 a", "-NUMBER", "", "="},
		// One that comes twice.
		row{"", "ZADD k 1 a 1 a", ":1", "ZADD k 1 a", "k=a:1"}, row{"", "ZADD k 1 a 2 a", ":1", "ZADD k 1 a 2 a", "k=a:2"}, row{"k=a:1", "ZADD k 2 a 2 a", ":0", "ZADD k 2 a", "k=a:2"}, row{"k=a:1", "ZADD k 2 a 3 a", ":0", "ZADD k 2 a 3 a", "k=a:3"}, row{"k=a:1", "ZADD k 1 a 3 a 3 a 2 a", ":0", "ZADD k 3 a 2 a", "k=a:2"},
		row{"k=a:1@11", "ZADD k 2 a 1 a", ":0", "", "="}, row{"k=a:1", "ZADD k CH 2 a 1 a", ":2", "", "="}, row{"k=a:1", "ZADD k 2 a 1 a 5 b", ":1", "ZADD k 2 a 1 a 5 b", "k=a:1,b:5"}, row{"k=a:1,b:1", "ZADD k CH 2 a 2 b 1 a 1 b 1 b", ":4", "", "="},
		// Other kinds.
		row{"k:str", "ZADD k 1 a", "-WRONG", "", "="}, row{"k:list", "ZADD k 1 a", "-WRONG", "", "="}, row{"k:set@11", "ZADD k XX 1 a 2 b", "-WRONG", "", "="}, row{"k:hash", "ZADD k INCR 1 a", "-WRONG", "", "="},
		// What is no number.
		row{"k=a:1", "ZADD k x a", "-NUMBER", "", "="}, row{"k=a:1", "ZADD k 5 a x b", "-NUMBER", "", "="}, row{"k=a:1", "ZADD k x a 5 b", "-NUMBER", "", "="}, row{"k=a:1", "ZADD k 5 a 5 b 01 c", "-NUMBER", "", "="}, row{"k=a:1", "ZADD k 1.5 a", "-NUMBER", "", "="}, row{"k=a:1", "ZADD k inf a", "-NUMBER", "", "="}, row{"k=a:1", "ZADD k +1 a", "-NUMBER", "", "="}, row{"k=a:1", "ZADD k '' a", "-NUMBER", "", "="}, row{"k=a:1", "ZADD k (1 a", "-NUMBER", "", "="}, row{"k:set", "ZADD k x a", "-NUMBER", "", "="}, row{"k=a:1", "ZADD k NX x a", "-NUMBER", "", "="}, row{"k=a:1", "ZADD k XX 5 b x a", "-NUMBER", "", "="},
	)
}

func TestOptionsOfAdd(t *testing.T) {
	check(t, api.RolePrimary, 10,
		row{"k=a:1@11", "ZADD k NX 5 a 6 b 7 b", ":1", "ZADD k 6 b", "k=a:1,b:6@11"}, row{"k=a:1", "ZADD k nx 5 a", ":0", "", "="}, row{"", "ZADD k NX 5 a", ":1", "ZADD k 5 a", "k=a:5"},
		row{"k=a:1@11", "ZADD k XX 5 a 6 b", ":0", "ZADD k 5 a", "k=a:5@11"}, row{"k=a:1", "ZADD k xx 5 b", ":0", "", "="}, row{"", "ZADD k XX 5 a", ":0", "", "="}, row{"k=a:1", "ZADD k XX CH 5 a 6 b", ":1", "ZADD k 5 a", "k=a:5"},
		row{"k=a:1@11", "ZADD k GT 2 a 3 b", ":1", "ZADD k 2 a 3 b", "k=a:2,b:3@11"}, row{"k=a:1", "ZADD k GT 1 a", ":0", "", "="}, row{"k=a:1", "ZADD k gt 0 a", ":0", "", "="}, row{"k=a:1", "ZADD k GT CH 3 a 2 a 4 a", ":2", "ZADD k 3 a 4 a", "k=a:4"}, row{"", "ZADD k GT -5 a", ":1", "ZADD k -5 a", "k=a:-5"}, row{"k=a:" + greatest, "ZADD k GT " + greatest + " a", ":0", "", "="},
		row{"k=a:1@11", "ZADD k LT 0 a 3 b", ":1", "ZADD k 0 a 3 b", "k=a:0,b:3@11"}, row{"k=a:1", "ZADD k LT 1 a", ":0", "", "="}, row{"k=a:1", "ZADD k lt 2 a", ":0", "", "="}, row{"k=a:1", "ZADD k LT CH -3 a -2 a -4 a", ":2", "ZADD k -3 a -4 a", "k=a:-4"}, row{"", "ZADD k LT 5 a", ":1", "ZADD k 5 a", "k=a:5"}, row{"k=a:" + least, "ZADD k LT " + least + " a", ":0", "", "="},
		row{"k=a:1", "ZADD k XX GT 2 a 2 b", ":0", "ZADD k 2 a", "k=a:2"}, row{"k=a:1", "ZADD k LT XX CH 0 a 0 b", ":1", "ZADD k 0 a", "k=a:0"}, row{"k=a:1", "ZADD k XX GT 1 a", ":0", "", "="},
		row{"k=a:1,b:2", "ZADD k CH 1 a 3 b 4 c", ":2", "ZADD k 3 b 4 c", "k=a:1,b:3,c:4"}, row{"", "ZADD k CH 1 a 2 a 2 a", ":2", "ZADD k 1 a 2 a", "k=a:2"}, row{"k=a:1", "ZADD k ch 1 a", ":0", "", "="},
		// Options may come again, in any order and case.
		row{"k=a:1", "ZADD k NX nx Nx CH nX ch 5 a 6 b", ":1", "ZADD k 6 b", "k=a:1,b:6"}, row{"k=a:1", "ZADD k ch GT Xx gT CH xx 5 a 6 b", ":1", "ZADD k 5 a", "k=a:5"}, row{"k=a:1", "ZADD k Lt lT incr LT iNcR -1 a", "$0", "ZADD k 0 a", "k=a:0"},
		// A member that is named as an option is; options end at the first word that is none.
		row{"", "ZADD k 1 nx", ":1", "ZADD k 1 nx", "k=nx:1"}, row{"", "ZADD k CH 1 ch 2 INCR 3 gt", ":3", "ZADD k 1 ch 2 INCR 3 gt", "k=ch:1,INCR:2,gt:3"}, row{"k=a:1", "ZADD k 1 a nx 2", "-NUMBER", "", "="}, row{"k=a:1", "ZADD k 1 a XX", "-SYNTAX", "", "="}, row{"k=a:1", "ZADD k x nx 1 a", "-NUMBER", "", "="}, row{"k=a:1", "ZADD k n 1 a", "-SYNTAX", "", "="}, row{"k=a:1", "ZADD nx nx 1 a", ":1", "ZADD nx 1 a", "k=a:1 nx=a:1"}, row{"k=a:1", "ZADD k n\u017f 1", "-NUMBER", "", "="},
		// No pair, or half of one.
		row{"k=a:1", "ZADD k NX XX", "-SYNTAX", "", "="}, row{"k=a:1", "ZADD k NX NX", "-SYNTAX", "", "="}, row{"k=a:1", "ZADD k CH INCR GT XX", "-SYNTAX", "", "="}, row{"k=a:1", "ZADD k NX 1", "-SYNTAX", "", "="}, row{"k=a:1", "ZADD k 1 a 2", "-SYNTAX", "", "="}, row{"k=a:1", "ZADD k CH 1 a 2 b 3", "-SYNTAX", "", "="}, row{"k=a:1", "ZADD k x a 2", "-SYNTAX", "", "="}, row{"k:set", "ZADD k 1 a 2", "-SYNTAX", "", "="},
		// What may not stand together.
		row{"k=a:1", "ZADD k NX XX 1 a", "-SYNTAX", "", "="}, row{"k=a:1", "ZADD k GT NX 1 a", "-SYNTAX", "", "="}, row{"k=a:1", "ZADD k nx lt 1 a", "-SYNTAX", "", "="}, row{"k=a:1", "ZADD k LT CH GT 1 a", "-SYNTAX", "", "="}, row{"k=a:1", "ZADD k XX GT LT 1 a", "-SYNTAX", "", "="}, row{"k=a:1", "ZADD k NX GT x a", "-SYNTAX", "", "="}, row{"k=a:1", "ZADD k NX GT INCR 1 a 2 b", "-SYNTAX", "", "="}, row{"k:set", "ZADD k INCR GT LT 1 a", "-SYNTAX", "", "="},
		// INCR with more than one pair.
		row{"k=a:1", "ZADD k INCR 1 a 2 b", "-PAIR", "", "="}, row{"k=a:1", "ZADD k NX INCR x a 2 b", "-PAIR", "", "="}, row{"k:set", "ZADD k incr 1 a 1 a 1 a", "-PAIR", "", "="}, row{"k=a:1", "ZADD k INCR 1 a 2", "-SYNTAX", "", "="}, row{"k=a:1", "ZADD k INCR x a", "-NUMBER", "", "="},
	)
}

func TestAddToAScore(t *testing.T) {
	rows := []row{
		{"k=a:1@11", "X 2 a", "$3", "ZADD k 3 a", "k=a:3@11"}, {"k=a:1@11", "X -2 a", "$-1", "ZADD k -1 a", "k=a:-1@11"}, {"k=a:1", "X 2 b", "$2", "ZADD k 2 b", "k=a:1,b:2"}, {"", "X 0 a", "$0", "ZADD k 0 a", "k=a:0"}, {"k=a:1", "X 0 a", "$1", "", "="}, {"k=a:0", "X 0 a", "$0", "", "="}, {"k=:5", "X -5 ''", "$0", "ZADD k 0 ''", "k=:0"},
		{"k=a:1", "X 9223372036854775806 a", "$" + greatest, "ZADD k " + greatest + " a", "k=a:" + greatest}, {"k=a:1", "X " + greatest + " a", "-OVER", "", "="}, {"k=a:-1", "X -9223372036854775807 a", "$" + least, "ZADD k " + least + " a", "k=a:" + least}, {"k=a:-1", "X " + least + " a", "-OVER", "", "="}, {"", "X " + greatest + " a", "$" + greatest, "ZADD k " + greatest + " a", "k=a:" + greatest}, {"", "X " + least + " a", "$" + least, "ZADD k " + least + " a", "k=a:" + least},
		{"k=a:" + greatest, "X " + least + " a", "$-1", "ZADD k -1 a", "k=a:-1"}, {"k=a:" + greatest, "X 1 a", "-OVER", "", "="}, {"k=a:" + least, "X -1 a", "-OVER", "", "="}, {"k=a:" + least, "X " + greatest + " a", "$-1", "ZADD k -1 a", "k=a:-1"},
		{"k=a:1", "X x a", "-NUMBER", "", "="}, {"k=a:1", "X '' a", "-NUMBER", "", "="}, {"k=a:1", "X 9223372036854775808 a", "-NUMBER", "", "="}, {"k=a:1", "X -9223372036854775809 a", "-NUMBER", "", "="}, {"k:set", "X x a", "-NUMBER", "", "="}, {"k:set", "X 1 a", "-WRONG", "", "="}, {"k:str", "X 1 a", "-WRONG", "", "="}, {"k:hash@11", "X 1 a", "-WRONG", "", "="}, {"k:list", "X 1 a", "-WRONG", "", "="},
		{"k=a:1", "X 1 nx", "$1", "ZADD k 1 nx", "k=a:1,nx:1"},
	}
	for _, name := range []string{"ZADD k INCR", "ZADD k incr CH Incr", "ZINCRBY k", "zincrby k"} {
		for _, x := range rows {
			x.args = strings.Replace(x.args, "X", name, 1)
			check(t, api.RolePrimary, 10, x)
		}
	}
	check(t, api.RolePrimary, 10,
		row{"k=a:1", "ZADD k NX INCR 2 a", "nil", "", "="}, row{"k=a:1", "ZADD k NX INCR 2 b", "$2", "ZADD k 2 b", "k=a:1,b:2"}, row{"", "ZADD k INCR NX 2 a", "$2", "ZADD k 2 a", "k=a:2"}, row{"k=a:1", "ZADD k INCR NX " + greatest + " a", "nil", "", "="},
		row{"k=a:1@11", "ZADD k XX INCR 2 a", "$3", "ZADD k 3 a", "k=a:3@11"}, row{"k=a:1", "ZADD k XX INCR 2 b", "nil", "", "="}, row{"", "ZADD k INCR XX 2 a", "nil", "", "="}, row{"k=a:1", "ZADD k INCR XX 0 a", "$1", "", "="},
		row{"k=a:5", "ZADD k GT INCR 2 a", "$7", "ZADD k 7 a", "k=a:7"}, row{"k=a:5", "ZADD k GT INCR 0 a", "nil", "", "="}, row{"k=a:5", "ZADD k INCR GT -2 a", "nil", "", "="}, row{"k=a:-5", "ZADD k INCR GT 2 a", "$-3", "ZADD k -3 a", "k=a:-3"}, row{"k=a:5", "ZADD k GT INCR -2 b", "$-2", "ZADD k -2 b", "k=b:-2,a:5"}, row{"k=a:1", "ZADD k GT INCR " + greatest + " a", "-OVER", "", "="}, row{"k=a:-1", "ZADD k GT INCR " + least + " a", "-OVER", "", "="},
		row{"k=a:5", "ZADD k LT INCR -2 a", "$3", "ZADD k 3 a", "k=a:3"}, row{"k=a:5", "ZADD k LT INCR 0 a", "nil", "", "="}, row{"k=a:5", "ZADD k INCR LT 2 a", "nil", "", "="}, row{"k=a:5", "ZADD k INCR LT 2 b", "$2", "ZADD k 2 b", "k=b:2,a:5"}, row{"k=a:1", "ZADD k LT INCR " + greatest + " a", "-OVER", "", "="}, row{"k=a:5", "ZADD k CH XX LT INCR -9 a", "$-4", "ZADD k -4 a", "k=a:-4"},
	)
}

// All rows of up to three options, ahead of all rows of up to two pairs of two members, on sets that have them, or not.
func TestAllOptionsOfAdd(t *testing.T) {
	t.Parallel()
	names := []string{"nx", "xx", "gt", "lt", "ch", "incr"}
	options := [][]string{nil}
	for _, a := range names {
		options = append(options, []string{a})
		for _, b := range names {
			options = append(options, []string{a, b})
			for _, c := range names {
				options = append(options, []string{a, b, c})
			}
		}
	}
	var one, pairs [][]string
	for n := -1; n <= 2; n++ {
		one = append(one, []string{strconv.Itoa(n), "a"}, []string{strconv.Itoa(n), "b"})
	}
	pairs = append(pairs, one...)
	for _, a := range one {
		for _, b := range one {
			pairs = append(pairs, slices.Concat(a, b))
		}
	}
	for _, before := range []string{"", "k=a:0", "k=a:1,b:1@11", "k=b:0,a:2"} {
		for _, o := range options {
			for i, p := range pairs {
				if len(o) == 3 && i >= len(one) && i%5 > 0 {
					continue
				}
				newTrio(t, entries(before)).do(t, api.Call{Role: api.RolePrimary, Now: 10, Args: slices.Concat([]string{"ZADD", "k"}, o, p)})
			}
		}
	}
}

// Two numbers added to a score, one behind the other, are their sum; and one that is taken off again leads back.
func TestSumsOfScores(t *testing.T) {
	scores := []string{least, "-9223372036854775807", "-4611686018427387904", "-1", "0", "1", "4611686018427387903", "4611686018427387904", "9223372036854775806", greatest}
	for _, was := range scores {
		for _, n := range scores {
			for _, o := range []string{"incr", "incr gt", "incr lt", "incr nx", "incr xx"} {
				for _, before := range []string{"", "k=a:" + was, "k=b:7,a:" + was} {
					newTrio(t, entries(before)).do(t, api.Call{Role: api.RolePrimary, Args: words("zadd k " + o + " " + n + " a")})
				}
			}
			x := newTrio(t, entries("k=a:"+was))
			for _, args := range []string{"zincrby k " + n + " a", "zincrby k " + n + " b", "zincrby k 5 a", "zincrby k -5 a"} {
				x.do(t, api.Call{Role: api.RolePrimary, Args: words(args)})
			}
		}
	}
}
