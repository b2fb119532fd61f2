package skip_test

import (
	"fmt"
	"math"
	"math/big"
	"math/rand/v2"
	"slices"
	"strconv"
	"strings"
	"testing"

	"millpond/api"
	"millpond/skip"
	"millpond/table"
)

// modelLevel is a member's level, by its hash's digits of base 2.
func modelLevel(seed uint64, member string) int {
	digits := fmt.Sprintf("%064b", table.Hash(seed, member))
	level := 1
	for level < 16 && strings.HasSuffix(digits, "00") {
		digits = digits[:len(digits)-2]
		level++
	}
	return level
}

// seedOf is a seed with which the empty member has a hash.
func seedOf(hash uint64) uint64 { return hash ^ 14695981039346656037 }

// border is a bound as a number without bound: twice its score and, if it is open, by more; twice a score in the range is not beyond it.
func border(b api.Bound, by int64) *big.Int {
	far := new(big.Int).Lsh(big.NewInt(1), 100)
	switch b.Inf {
	case -1:
		return far.Neg(far)
	case 1:
		return far
	}
	n := new(big.Int).Lsh(big.NewInt(b.N), 1)
	if b.Open {
		n.Add(n, big.NewInt(by))
	}
	return n
}

func modelIn(n int64, low, high api.Bound) bool {
	at := new(big.Int).Lsh(big.NewInt(n), 1)
	return border(low, 1).Cmp(at) <= 0 && at.Cmp(border(high, -1)) <= 0
}

// model is a plain list of members, in order.
type model []api.Scored

func (m model) find(member string) int {
	return slices.IndexFunc(m, func(s api.Scored) bool { return s.M == member })
}

func (m *model) del(member string) bool {
	i := m.find(member)
	if i < 0 {
		return false
	}
	*m = slices.Delete(slices.Clone(*m), i, i+1)
	return true
}

func (m *model) put(member string, n int64) bool {
	was := m.del(member)
	i := 0
	for i < len(*m) && ((*m)[i].N < n || (*m)[i].N == n && (*m)[i].M < member) {
		i++
	}
	*m = slices.Insert(slices.Clone(*m), i, api.Scored{M: member, N: n})
	return !was
}

// in are the ranks of those with a score in a range.
func (m model) in(low, high api.Bound) []int {
	var l []int
	for i, s := range m {
		if modelIn(s.N, low, high) {
			l = append(l, i)
		}
	}
	return l
}

// told is a rank, and the member of that rank.
type told struct {
	rank int
	api.Scored
}

func (m model) from(rank int, back bool) []told {
	var l []told
	by := 1
	if back {
		by = -1
	}
	for ; 0 <= rank && rank < len(m); rank += by {
		l = append(l, told{rank, m[rank]})
	}
	return l
}

// tried is a list beside its model: each call is done by both, and what they tell is held against each other.
type tried struct {
	t *testing.T
	*skip.List
	m model
}

func newTried(t *testing.T, seed uint64, l ...api.Scored) *tried {
	t.Helper()
	s, e := skip.Load(seed, l...)
	if s == nil || e != api.OK {
		t.Fatalf("Load of %v = %v", l, e)
	}
	x := &tried{t: t, List: s}
	for _, m := range l {
		x.m.put(m.M, m.N)
	}
	x.check()
	return x
}

func (x *tried) put(member string, n int64) {
	x.t.Helper()
	if got, want := x.Put(member, n), x.m.put(member, n); got != want {
		x.t.Fatalf("Put(%q, %d) = %t", member, n, got)
	}
}

func (x *tried) del(member string) {
	x.t.Helper()
	if got, want := x.Del(member), x.m.del(member); got != want {
		x.t.Fatalf("Del(%q) = %t", member, got)
	}
}

// check: what the list tells of its members is what the model tells.
func (x *tried) check() {
	x.t.Helper()
	checkList(x.t, x.List, x.m...)
	for _, rank := range ranksOf(len(x.m)) {
		for _, back := range []bool{false, true} {
			if l, want := gather(x.From(rank, back)), x.m.from(rank, back); !slices.Equal(l, want) {
				x.t.Fatalf("From(%d, %t) of %v tells %v", rank, back, x.m, l)
			}
		}
	}
}

// checkRanges: what the list tells of ranges is what the model tells.
func (x *tried) checkRanges(bounds ...api.Bound) {
	x.t.Helper()
	for _, low := range bounds {
		for _, high := range bounds {
			want := append(x.m.in(low, high), 0)
			n := len(want) - 1
			if got := x.Count(low, high); got != n {
				x.t.Fatalf("Count(%v, %v) of %v = %d; want %d", low, high, x.m, got, n)
			}
			if rank, ok := x.First(low, high); rank != want[0] || ok != (n > 0) {
				x.t.Fatalf("First(%v, %v) of %v = %d, %t; want %d", low, high, x.m, rank, ok, want[0])
			}
		}
	}
}

// gather is all that a loop tells.
func gather(all func(yield func(int, api.Scored) bool)) []told {
	var l []told
	for rank, m := range all {
		l = append(l, told{rank, m})
	}
	return l
}

// checkList: Len, All, At, Rank and Score tell just these members, in this order.
func checkList(t *testing.T, s *skip.List, want ...api.Scored) {
	t.Helper()
	if l := s.All(); !slices.Equal(l, want) || s.Len() != len(want) {
		t.Fatalf("All = %v, Len = %d; want %v", l, s.Len(), want)
	}
	for rank, m := range want {
		if got, ok := s.At(rank); got != m || !ok {
			t.Fatalf("At(%d) = %v, %t; want %v", rank, got, ok, m)
		}
		if got, ok := s.Rank(m.M); got != rank || !ok {
			t.Fatalf("Rank(%q) = %d, %t; want %d", m.M, got, ok, rank)
		}
		if n, ok := s.Score(m.M); n != m.N || !ok {
			t.Fatalf("Score(%q) = %d, %t; want %d", m.M, n, ok, m.N)
		}
	}
	for _, rank := range []int{math.MinInt, -1, len(want), len(want) + 1, math.MaxInt} {
		if m, ok := s.At(rank); m != (api.Scored{}) || ok {
			t.Fatalf("At(%d) of %d = %v, %t", rank, len(want), m, ok)
		}
	}
	checkNone(t, s, "a member that is not there")
}

// checkNone: the list tells nothing of that member.
func checkNone(t *testing.T, s *skip.List, member string) {
	t.Helper()
	if n, ok := s.Score(member); n != 0 || ok {
		t.Fatalf("Score(%q) = %d, %t", member, n, ok)
	}
	if rank, ok := s.Rank(member); rank != 0 || ok {
		t.Fatalf("Rank(%q) = %d, %t", member, rank, ok)
	}
}

// ranksOf are the ranks of n members, and some that are none's.
func ranksOf(n int) []int {
	l := []int{math.MinInt, math.MinInt + 1, -1 << 32, -n - 1, -n, -2, 1 << 32, math.MaxInt - 1, math.MaxInt}
	for i := -1; i <= n+1; i++ {
		l = append(l, i)
	}
	return l
}

// boundsOf are bounds at each of these scores, open and not, and those without a score.
func boundsOf(scores ...int64) []api.Bound {
	l := []api.Bound{{Inf: -1}, {Inf: 1}}
	for _, n := range scores {
		l = append(l, api.Bound{N: n}, api.Bound{N: n, Open: true})
	}
	return l
}

// memberOf is the member of a number.
func memberOf(i int) string { return "m" + strconv.Itoa(i) }

// number is a number's text.
func number(n int64) string { return strconv.FormatInt(n, 10) }

// maker makes calls, the same ones at each run.
type maker struct{ *rand.Rand }

func newMaker(seed uint64) maker { return maker{rand.New(rand.NewPCG(seed, 7))} }

// score is one of few, so that many are alike; or, seldom, one of all.
func (m maker) score() int64 {
	if m.IntN(20) == 0 {
		return int64(m.Uint64())
	}
	return m.Int64N(9) - 4
}

// anyCall puts one of so many members, or takes it out; the more it puts, the more of them are there.
func (x *tried) anyCall(m maker, members, puts int) {
	x.t.Helper()
	member := memberOf(m.IntN(members))
	if m.IntN(10) >= puts {
		x.del(member)
		return
	}
	if i := x.m.find(member); i >= 0 && m.IntN(3) == 0 {
		x.put(member, x.m[i].N)
		return
	}
	x.put(member, m.score())
}
