package members_test

import (
	"math/big"
	"math/rand/v2"
	"slices"
	"strconv"
	"testing"

	"millpond/api"
	"millpond/members"
)

// modelCheck: is a row a set? Each two of its texts are held against each other.
func modelCheck(s []string) api.Errno {
	for i := range s {
		for j := range i {
			if s[j] >= s[i] {
				return api.ErrSet
			}
		}
	}
	return api.OK
}

// modelOf puts each text where it belongs, one by one.
func modelOf(l ...string) []string {
	var s []string
	for _, x := range l {
		i := 0
		for i < len(s) && s[i] < x {
			i++
		}
		if i == len(s) || s[i] != x {
			s = slices.Insert(s, i, x)
		}
	}
	return s
}

// modelAdd is the set with some texts, and how many of these were not in it.
func modelAdd(s []string, l ...string) ([]string, int) {
	n := 0
	for _, x := range modelOf(l...) {
		if !slices.Contains(s, x) {
			n++
		}
	}
	return modelOf(slices.Concat(s, l)...), n
}

// modelDel is the set without some texts, and how many of these were in it.
func modelDel(s []string, l ...string) ([]string, int) {
	n := 0
	var rest []string
	for _, x := range s {
		if slices.Contains(l, x) {
			n++
		} else {
			rest = append(rest, x)
		}
	}
	return rest, n
}

// modelThose are the texts that the sets have, of which the question holds: in which of the sets is each?
func modelThose(l [][]string, holds func(in []bool) bool) []string {
	var those []string
	for _, x := range modelOf(slices.Concat(l...)...) {
		in := make([]bool, len(l))
		for i, s := range l {
			in[i] = slices.Contains(s, x)
		}
		if holds(in) {
			those = append(those, x)
		}
	}
	return those
}

func modelUnion(l ...[]string) []string {
	return modelThose(l, func(in []bool) bool { return slices.Contains(in, true) })
}

func modelMeet(l ...[]string) []string {
	return modelThose(l, func(in []bool) bool { return !slices.Contains(in, false) })
}

func modelLess(l ...[]string) []string {
	return modelThose(l, func(in []bool) bool { return in[0] && !slices.Contains(in[1:], true) })
}

// modelDraws are a draw and those behind it, n in all, by numbers without bound.
func modelDraws(draw uint64, n int) []*big.Int {
	times, _ := new(big.Int).SetString("6364136223846793005", 10)
	more, _ := new(big.Int).SetString("1442695040888963407", 10)
	bound := new(big.Int).Lsh(big.NewInt(1), 64)
	x := new(big.Int).SetUint64(draw)
	var l []*big.Int
	for range n {
		l = append(l, x)
		x = new(big.Int).Mul(x, times)
		x.Add(x, more)
		x.Mod(x, bound)
	}
	return l
}

func modulo(x *big.Int, n int) int {
	return int(new(big.Int).Mod(x, big.NewInt(int64(n))).Int64())
}

// modelSome is what Some tells of an n that may be.
func modelSome(s []string, n int, draw uint64) []string {
	var told []string
	if len(s) == 0 {
		return nil
	}
	for k, x := range modelDraws(draw, max(-n, 0)) {
		told = append(told[:k], s[modulo(x, len(s))])
	}
	rest := slices.Clone(s)
	for _, x := range modelDraws(draw, max(n, 0)) {
		if len(rest) == 0 {
			break
		}
		at := modulo(x, len(rest))
		told = append(told, rest[at])
		rest[at] = rest[0] // it changes places with the first one that is left
		rest = rest[1:]
	}
	return told
}

// check holds what is told against what the model tells.
func check(t *testing.T, call string, got, want any) {
	t.Helper()
	if got != want {
		t.Fatalf("%s = %v; want %v", call, got, want)
	}
}

// checkRow holds a row that is told, without an error, against that of the model.
func checkRow(t *testing.T, call string, args any, got []string, e api.Errno, want []string) {
	t.Helper()
	if !slices.Equal(got, want) || e != api.OK {
		t.Fatalf("%s of %.200q = %.200q, %v; want %.200q", call, args, got, e, want)
	}
}

// checkAdd: Add and Del tell what the model tells.
func checkAdd(t *testing.T, s []string, l ...string) {
	t.Helper()
	args := [][]string{s, l}
	want, count := modelAdd(s, l...)
	got, n, e := members.Add(s, l...)
	checkRow(t, "Add", args, got, e, want)
	check(t, "how many Add added", n, count)
	want, count = modelDel(s, l...)
	got, n, e = members.Del(s, l...)
	checkRow(t, "Del", args, got, e, want)
	check(t, "how many Del took", n, count)
}

// checkSets: Union, Meet and Less tell what the model tells.
func checkSets(t *testing.T, l ...[]string) {
	t.Helper()
	got, e := members.Union(l...)
	checkRow(t, "Union", l, got, e, modelUnion(l...))
	got, e = members.Meet(l...)
	checkRow(t, "Meet", l, got, e, modelMeet(l...))
	got, e = members.Less(l...)
	checkRow(t, "Less", l, got, e, modelLess(l...))
}

// checkSome: Some tells what the model tells.
func checkSome(t *testing.T, s []string, n int, draw uint64) {
	t.Helper()
	got, e := members.Some(s, n, draw)
	checkRow(t, "Some, n "+strconv.Itoa(n)+", draw "+strconv.FormatUint(draw, 10)+",", s, got, e, modelSome(s, n, draw))
}

// texts are some that are near each other, rising.
var texts = []string{"", "\x00", "a", "a\x00", "aa", "b"}

// subsets are all sets of some texts that rise.
func subsets(l ...string) [][]string {
	all := [][]string{nil}
	for i := len(l) - 1; i >= 0; i-- {
		for _, s := range all {
			all = append(all, slices.Concat(l[i:i+1], s))
		}
	}
	return all
}

// rows are all rows of up to n of some texts, in any order.
func rows(n int, l ...string) [][]string {
	all := [][]string{{}}
	last := all
	for range n {
		var longer [][]string
		for _, s := range last {
			for _, x := range l {
				longer = append(longer, slices.Concat(s, []string{x}))
			}
		}
		all, last = append(all, longer...), longer
	}
	return all
}

// great is a set of n texts.
func great(n int) []string {
	s := make([]string, n)
	for i := range s {
		s[i] = "m" + strconv.Itoa(10000000+i)
	}
	return s
}

// maker makes rows and draws, the same ones at each run.
type maker struct{ *rand.Rand }

func newMaker(seed uint64) maker { return maker{rand.New(rand.NewPCG(seed, 8))} }

// row is one of up to n texts of so many.
func (m maker) row(n, many int) []string {
	var l []string
	for range m.IntN(n + 1) {
		l = append(l, strconv.FormatInt(int64(m.IntN(many)), 3))
	}
	return l
}

// set is one of up to n texts of so many.
func (m maker) set(n, many int) []string { return modelOf(m.row(n, many)...) }

// draws are those at the edges, and some others.
func (m maker) draws(n int) []uint64 {
	l := []uint64{0, 1, 2, 3, 4, 5, 6, 7, 1<<31 - 1, 1 << 31, 1<<32 - 1, 1 << 32, 1<<63 - 1, 1 << 63, 1<<63 + 1, 1<<64 - 2, 1<<64 - 1}
	for range n {
		l = append(l, m.Uint64())
	}
	return l
}
