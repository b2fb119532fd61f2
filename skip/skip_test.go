package skip_test

import (
	"iter"
	"math"
	"runtime"
	"slices"
	"strings"
	"testing"
	"unsafe"

	"millpond/api"
	"millpond/skip"
)

// The example

func TestTheExample(t *testing.T) {
	for _, load := range []bool{false, true} {
		s := skip.New(1)
		if load {
			s, _ = skip.Load(1, api.Scored{M: "b", N: 1}, api.Scored{M: "a", N: 1}, api.Scored{M: "c", N: -5})
		} else if !s.Put("b", 1) || !s.Put("a", 1) || !s.Put("c", -5) {
			t.Fatal("a new member was there")
		}
		checkList(t, s, api.Scored{M: "c", N: -5}, api.Scored{M: "a", N: 1}, api.Scored{M: "b", N: 1})
		for _, c := range []struct {
			low, high string
			want      int
		}{{"(1", "+inf", 0}, {"-5", "1", 3}} {
			low, _ := skip.Read(c.low)
			high, _ := skip.Read(c.high)
			if n := s.Count(low, high); n != c.want {
				t.Errorf("Count of %s to %s = %d; want %d", c.low, c.high, n, c.want)
			}
		}
	}
}

// P7.1: Level

func TestLevelOfHashes(t *testing.T) {
	for _, c := range []struct {
		hash uint64
		want int
	}{
		{1, 1}, {2, 1}, {3, 1}, {5, 1}, {math.MaxUint64, 1}, {1 << 63, 16},
		{4, 2}, {8, 2}, {12, 2}, {math.MaxUint64 - 3, 2}, {math.MaxUint64 - 7, 2}, {1<<63 | 1<<3, 2},
		{16, 3}, {32, 3}, {48, 3}, {64, 4}, {1 << 27, 14},
		{1 << 28, 15}, {1 << 29, 15}, {3 << 28, 15}, {math.MaxUint64 - 1<<29 + 1, 15},
		{1 << 30, 16}, {1 << 31, 16}, {1 << 32, 16}, {1 << 33, 16}, {1 << 34, 16}, {math.MaxUint64 - 1<<30 + 1, 16}, {0, 16},
	} {
		if got := skip.Level(seedOf(c.hash), ""); got != c.want {
			t.Errorf("Level at the hash %b = %d; want %d", c.hash, got, c.want)
		}
	}
}

func TestLevelOfEachBit(t *testing.T) {
	m := newMaker(1)
	for i := range 64 {
		want := min(i/2+1, 16)
		for range 20 {
			hash := (m.Uint64() | 1) << i
			if got := skip.Level(seedOf(hash), ""); got != want {
				t.Errorf("Level at the hash %b = %d; want %d", hash, got, want)
			}
		}
	}
}

func TestLevelOfMembers(t *testing.T) {
	m := newMaker(2)
	counts := map[int]int{}
	for i := range 20000 {
		seed, member := m.Uint64(), memberOf(i)
		if i%2 == 0 {
			seed = uint64(i % 6)
		}
		want := modelLevel(seed, member)
		counts[want]++
		if got := skip.Level(seed, member); got != want {
			t.Fatalf("Level(%d, %q) = %d; want %d", seed, member, got, want)
		}
	}
	if counts[1] == 0 || counts[2] == 0 || counts[3] == 0 || counts[4] == 0 {
		t.Errorf("so many members of each level: %v", counts)
	}
	for _, member := range []string{"", "\x00", "\xff\xfe", strings.Repeat("m", 1<<17)} {
		for seed := range uint64(300) {
			if got, want := skip.Level(seed, member), modelLevel(seed, member); got != want {
				t.Fatalf("Level(%d, %.9q) = %d; want %d", seed, member, got, want)
			}
		}
	}
}

// P7.1: Read

func TestRead(t *testing.T) {
	for text, want := range map[string]api.Bound{
		"-inf": {Inf: -1},
		"+inf": {Inf: 1},
		"inf":  {Inf: 1},
		"0":    {},
		"(0":   {Open: true},
		"1":    {N: 1},
		"(1":   {N: 1, Open: true},
		"-5":   {N: -5},
		"(-5":  {N: -5, Open: true},
		"10":   {N: 10},
		"(100": {N: 100, Open: true},

		"9223372036854775807":   {N: math.MaxInt64},
		"(9223372036854775807":  {N: math.MaxInt64, Open: true},
		"-9223372036854775808":  {N: math.MinInt64},
		"(-9223372036854775808": {N: math.MinInt64, Open: true},
	} {
		if got, e := skip.Read(text); got != want || e != api.OK {
			t.Errorf("Read(%q) = %v, %v; want %v", text, got, e, want)
		}
	}
}

func TestReadOfTextsThatAreNoBounds(t *testing.T) {
	for _, text := range []string{
		"", "(", "((", "()", "((1", "(1)", "1(", ")1", "[1", "[", "{1",
		"-", "+", "(-", "(+", "--1", "+1", "(+1", "-0", "(-0", "00", "(01", "01", "-01", "+0",
		"(inf", "(+inf", "(-inf", "((inf", "-inf(", "inf(", "Inf", "INF", "+Inf", "-INF", "--inf", "++inf", "+-inf", "infinity", "-infinity", "in", "-in", "+in", "-inf ", " inf", "inf\x00", "infinf", "∞",
		"1 ", " 1", "( 1", "(1 ", "1\n", "1\x00", "\x001", "1.0", "(1.5", "1e3", "0x1", "1_0", "1,2", "nan", "NaN", "a", "(a",
		"9223372036854775808", "(9223372036854775808", "-9223372036854775809", "(-9223372036854775809", "18446744073709551616",
		"99999999999999999999999", "(" + strings.Repeat("9", 1<<17), strings.Repeat("(", 1<<17), strings.Repeat("1", 1<<17), "\xff", "(\xff", "１",
	} {
		if got, e := skip.Read(text); got != (api.Bound{}) || e != api.ErrBound {
			t.Errorf("Read(%.40q) = %v, %v; want ErrBound", text, got, e)
		}
	}
}

// P7.1: In

func TestInOneByOne(t *testing.T) {
	low, high, zero := api.Bound{Inf: -1}, api.Bound{Inf: 1}, api.Bound{}
	for _, c := range []struct {
		n         int64
		low, high api.Bound
		want      bool
	}{
		{0, low, high, true}, {0, high, low, false}, {0, high, high, false}, {0, low, low, false},
		{math.MinInt64, low, high, true}, {math.MaxInt64, low, high, true},
		{math.MinInt64, low, low, false}, {math.MaxInt64, high, high, false},
		{0, zero, zero, true}, {-1, zero, zero, false}, {1, zero, zero, false},
		{1, zero, high, true}, {0, zero, high, true}, {-1, zero, high, false},
		{1, low, zero, false}, {0, low, zero, true}, {-1, low, zero, true},
		{0, zero, low, false}, {-1, zero, low, false}, {0, high, zero, false}, {1, high, zero, false},
		{2, api.Bound{N: 1}, api.Bound{N: 3}, true}, {1, api.Bound{N: 1}, api.Bound{N: 3}, true}, {3, api.Bound{N: 1}, api.Bound{N: 3}, true},
		{0, api.Bound{N: 1}, api.Bound{N: 3}, false}, {4, api.Bound{N: 1}, api.Bound{N: 3}, false},
		{1, api.Bound{N: 1, Open: true}, api.Bound{N: 3}, false}, {2, api.Bound{N: 1, Open: true}, api.Bound{N: 3}, true},
		{3, api.Bound{N: 1}, api.Bound{N: 3, Open: true}, false}, {2, api.Bound{N: 1}, api.Bound{N: 3, Open: true}, true},
		{1, api.Bound{N: 1, Open: true}, api.Bound{N: 1}, false}, {1, api.Bound{N: 1}, api.Bound{N: 1, Open: true}, false},
		{2, api.Bound{N: 3}, api.Bound{N: 1}, false}, {3, api.Bound{N: 3}, api.Bound{N: 1}, false}, {1, api.Bound{N: 3}, api.Bound{N: 1}, false},
		{math.MaxInt64, api.Bound{N: math.MaxInt64, Open: true}, high, false}, {math.MinInt64, low, api.Bound{N: math.MinInt64, Open: true}, false},
		// a bound without a score: neither N nor Open counts
		{5, api.Bound{Inf: -1, N: 9}, high, true}, {5, low, api.Bound{Inf: 1, N: -9}, true},
		{9, api.Bound{Inf: -1, N: 9, Open: true}, api.Bound{Inf: 1, N: 9, Open: true}, true},
		{9, api.Bound{Inf: 1, N: 5}, high, false}, {5, low, api.Bound{Inf: -1, N: 9}, false},
		// any other Inf counts as 0
		{5, api.Bound{Inf: 2, N: 5}, api.Bound{Inf: -2, N: 5}, true},
		{5, api.Bound{Inf: -7, N: 5, Open: true}, high, false},
		{5, low, api.Bound{Inf: 7, N: 5, Open: true}, false},
		{6, low, api.Bound{Inf: 2, N: 5}, false}, {4, api.Bound{Inf: -2, N: 5}, high, false},
	} {
		if got := skip.In(c.n, c.low, c.high); got != c.want {
			t.Errorf("In(%d, %v, %v) = %t", c.n, c.low, c.high, got)
		}
	}
}

func TestInOfAllSorts(t *testing.T) {
	scores := []int64{math.MinInt64, math.MinInt64 + 1, -2, -1, 0, 1, 2, math.MaxInt64 - 1, math.MaxInt64}
	var bounds []api.Bound
	for _, n := range scores {
		for _, inf := range []int{math.MinInt, -2, -1, 0, 1, 2, math.MaxInt} {
			bounds = append(bounds, api.Bound{N: n, Inf: inf}, api.Bound{N: n, Inf: inf, Open: true})
		}
	}
	for _, n := range scores {
		for _, low := range bounds {
			for _, high := range bounds {
				if got, want := skip.In(n, low, high), modelIn(n, low, high); got != want {
					t.Fatalf("In(%d, %v, %v) = %t", n, low, high, got)
				}
			}
		}
	}
}

// P7.2: New, Load

func TestNew(t *testing.T) {
	for seed := range uint64(4) {
		s := skip.New(seed)
		if s == nil {
			t.Fatal("New makes no list")
		}
		checkList(t, s)
		x := &tried{t: t, List: s}
		x.check()
		x.checkRanges(boundsOf(0)...)
		if !s.Put("a", 0) || s.Put("a", 0) || !s.Put("", 0) {
			t.Error("Put tells of a new member that it was there, or of one that is there that it was not")
		}
		checkList(t, s, api.Scored{}, api.Scored{M: "a"})
	}
}

func TestLoad(t *testing.T) {
	newTried(t, 0)
	newTried(t, 0, []api.Scored{}...)
	newTried(t, 0, api.Scored{})
	newTried(t, 1, api.Scored{M: "a", N: 1}, api.Scored{M: "b", N: 2}, api.Scored{M: "c", N: 3})
	newTried(t, 2, api.Scored{M: "a", N: 3}, api.Scored{M: "b", N: 2}, api.Scored{M: "c", N: 1})
	newTried(t, 3, api.Scored{M: "b", N: 7}, api.Scored{M: "a", N: 7}, api.Scored{M: "aa", N: 7}, api.Scored{M: "", N: 7}, api.Scored{M: "c", N: 6}, api.Scored{M: "\xff", N: 7}, api.Scored{M: "B", N: 7})
	newTried(t, 4, api.Scored{M: "max", N: math.MaxInt64}, api.Scored{M: "min", N: math.MinInt64}, api.Scored{M: "0"}, api.Scored{M: "1", N: -1})
	m := newMaker(3)
	for n := range 60 {
		var l []api.Scored
		for _, i := range m.Perm(n) {
			l = append(l, api.Scored{M: memberOf(i), N: m.score()})
		}
		x := newTried(t, m.Uint64(), l...)
		x.put("new", m.score())
		for i := range n {
			x.del(memberOf(i))
		}
		x.check()
	}
}

func TestLoadOfOneMemberTwice(t *testing.T) {
	for _, l := range [][]api.Scored{
		{{M: "a", N: 1}, {M: "a", N: 1}},
		{{M: "a", N: 1}, {M: "a", N: 2}},
		{{M: "a", N: 2}, {M: "a", N: 1}},
		{{}, {}},
		{{M: ""}, {M: "", N: 1}},
		{{M: "a", N: 1}, {M: "b", N: 2}, {M: "a", N: 3}},
		{{M: "b", N: 2}, {M: "a", N: 1}, {M: "c", N: 9}, {M: "d", N: 8}, {M: "c", N: math.MinInt64}},
		{{M: "b", N: 2}, {M: "b", N: 2}, {M: "b", N: 2}},
	} {
		if s, e := skip.Load(1, l...); s != nil || e != api.ErrScored {
			t.Errorf("Load of %v = %v, %v; want ErrScored", l, s, e)
		}
	}
	var l []api.Scored
	for i := range 500 {
		l = append(l, api.Scored{M: memberOf(i), N: int64(i % 7)})
	}
	for i := range l {
		twice := append(slices.Clone(l), api.Scored{M: l[i].M, N: int64(i % 5)})
		if s, e := skip.Load(1, twice...); s != nil || e != api.ErrScored {
			t.Fatalf("Load of %q twice = %v; want ErrScored", l[i].M, e)
		}
	}
}

func TestTheListOfLoadIsNeitherChangedNorKept(t *testing.T) {
	l := []api.Scored{{M: "c", N: 3}, {M: "a", N: 9}, {M: "b", N: 1}, {M: "d", N: 1}}
	was := slices.Clone(l)
	s, _ := skip.Load(1, l...)
	s.Put("e", 0)
	s.Del("a")
	skip.Load(1, append(slices.Clone(l), l[0])...)
	if !slices.Equal(l, was) {
		t.Fatalf("the list is %v; it was %v", l, was)
	}
	s, _ = skip.Load(1, l...)
	for i := range l {
		l[i] = api.Scored{M: "x", N: -1}
	}
	checkList(t, s, api.Scored{M: "b", N: 1}, api.Scored{M: "d", N: 1}, api.Scored{M: "c", N: 3}, api.Scored{M: "a", N: 9})
}

// P7.2: Put, Del, Score

func TestPutAndDelOneByOne(t *testing.T) {
	s := skip.New(5)
	if !s.Put("a", 5) || s.Put("a", 5) || s.Put("a", -5) || s.Put("a", 0) {
		t.Error("Put of a")
	}
	checkList(t, s, api.Scored{M: "a"})
	if !s.Put("b", 0) || !s.Put("", 0) || s.Put("b", -1) || s.Put("a", 1) {
		t.Error("Put of others")
	}
	checkList(t, s, api.Scored{M: "b", N: -1}, api.Scored{}, api.Scored{M: "a", N: 1})
	if s.Del("c") || s.Del("A") || s.Del("aa") || !s.Del("") || s.Del("") {
		t.Error("Del")
	}
	checkNone(t, s, "")
	checkList(t, s, api.Scored{M: "b", N: -1}, api.Scored{M: "a", N: 1})
	if !s.Put("", 9) || !s.Del("b") || !s.Del("a") || s.Del("a") {
		t.Error("Del of others")
	}
	checkList(t, s, api.Scored{N: 9})
	if !s.Del("") || s.Len() != 0 {
		t.Error("Del of the last one")
	}
	checkList(t, s)
}

// A member of each level, put at each place among others and taken out again.
func TestPutAndDelOnAllLevels(t *testing.T) {
	for level := 1; level <= 16; level++ {
		seed := seedOf(1 << (2*level - 2))
		for n := range 9 {
			var l []api.Scored
			for i := range n {
				l = append(l, api.Scored{M: memberOf(i), N: int64(2 * i)})
			}
			for place := range n + 1 {
				x := newTried(t, seed, l...)
				x.put("", int64(2*place-1))
				x.check()
				for to := range n + 1 {
					x.put("", int64(2*to-1))
					x.check()
				}
				x.del("")
				x.check()
			}
		}
	}
}

func TestEachMemberTakenOut(t *testing.T) {
	for _, seed := range []uint64{0, 1, 2, seedOf(0)} {
		var l []api.Scored
		for i := range 40 {
			l = append(l, api.Scored{M: memberOf(i), N: int64(i * 7 % 11)})
		}
		l = append(l, api.Scored{N: 5})
		for _, m := range l {
			x := newTried(t, seed, l...)
			x.del(m.M)
			x.check()
			x.del(m.M)
			x.put(m.M, m.N)
			x.check()
			x.put(m.M, m.N)
			x.put(m.M, m.N+1)
			x.check()
		}
		x := newTried(t, seed, l...)
		for x.Len() > 0 {
			x.del(x.m[len(x.m)/2].M)
			x.check()
		}
		x.put("a", 1)
		x.check()
	}
}

func TestScoresAtBothEnds(t *testing.T) {
	x := newTried(t, 6)
	for _, n := range []int64{math.MaxInt64, math.MinInt64, 0, math.MaxInt64 - 1, math.MinInt64 + 1, -1, 1} {
		for _, end := range []string{"b", "a", ""} {
			x.put(end+number(n), n)
			x.check()
		}
	}
	x.checkRanges(boundsOf(math.MinInt64, math.MinInt64+1, -1, 0, 1, math.MaxInt64-1, math.MaxInt64)...)
	for _, n := range []int64{math.MinInt64, math.MaxInt64} {
		for _, end := range []string{"b", "a", ""} {
			x.put(end+number(n), -n-1)
			x.check()
			x.del(end + number(n))
			x.check()
		}
	}
}

func TestMembersOfAllBytes(t *testing.T) {
	x := newTried(t, 7)
	for c := 255; c >= 0; c-- {
		x.put(string([]byte{byte(c)}), 0)
		x.put(string([]byte{'m', byte(c)}), 0)
	}
	x.check()
	long := strings.Repeat("m", 1<<17)
	for _, member := range []string{long, long + "a", long[1:], "", "\x00\x00"} {
		x.put(member, 0)
		x.put(member, 1)
		x.del(member + "\x00")
	}
	x.check()
}

// P7.3

func TestRanksOneByOne(t *testing.T) {
	x := newTried(t, 8, api.Scored{M: "c", N: 1}, api.Scored{M: "a", N: 2}, api.Scored{M: "b", N: 1}, api.Scored{M: "d", N: -1})
	for rank, member := range []string{"d", "b", "c", "a"} {
		if got, ok := x.Rank(member); got != rank || !ok {
			t.Errorf("Rank(%q) = %d, %t; want %d", member, got, ok, rank)
		}
		if got, ok := x.At(rank); got.M != member || !ok {
			t.Errorf("At(%d) = %v, %t; want %q", rank, got, ok, member)
		}
	}
	for _, rank := range []int{-1, 4, 5, -4, math.MinInt, math.MaxInt} {
		if m, ok := x.At(rank); m != (api.Scored{}) || ok {
			t.Errorf("At(%d) = %v, %t", rank, m, ok)
		}
	}
	for _, member := range []string{"", "e", "A", "aa", "a\x00"} {
		checkNone(t, x.List, member)
	}
	if x.Len() != 4 || len(x.All()) != 4 {
		t.Errorf("Len = %d, All = %v", x.Len(), x.All())
	}
}

// P7.4: Count, First

func TestCountAndFirstOneByOne(t *testing.T) {
	s, _ := skip.Load(9, api.Scored{M: "a", N: -3}, api.Scored{M: "b", N: -3}, api.Scored{M: "c"}, api.Scored{M: "d", N: 4}, api.Scored{M: "e", N: 4}, api.Scored{M: "f", N: 9})
	for _, c := range []struct {
		low, high   string
		count, rank int
	}{
		{"-inf", "+inf", 6, 0}, {"-inf", "inf", 6, 0}, {"+inf", "-inf", 0, 0}, {"+inf", "+inf", 0, 0}, {"-inf", "-inf", 0, 0}, // all, none
		{"-3", "9", 6, 0}, {"(-3", "(9", 3, 2}, {"(-3", "9", 4, 2}, {"-3", "(9", 5, 0},
		{"0", "0", 1, 2}, {"(0", "0", 0, 0}, {"0", "(0", 0, 0}, {"(0", "(0", 0, 0}, // one
		{"9", "9", 1, 5}, {"9", "+inf", 1, 5}, {"(9", "+inf", 0, 0}, {"-inf", "(-3", 0, 0}, {"-inf", "-3", 2, 0}, {"-inf", "-4", 0, 0}, {"10", "inf", 0, 0},
		{"4", "4", 2, 3}, {"1", "8", 2, 3}, {"(4", "8", 0, 0}, {"5", "8", 0, 0}, {"(4", "9", 1, 5}, {"1", "(4", 0, 0},
		{"9", "-3", 0, 0}, {"4", "0", 0, 0}, {"4", "(4", 0, 0}, {"1", "-1", 0, 0}, // low above high
		{"-9223372036854775808", "9223372036854775807", 6, 0},
	} {
		low, _ := skip.Read(c.low)
		high, _ := skip.Read(c.high)
		if n := s.Count(low, high); n != c.count {
			t.Errorf("Count(%s, %s) = %d; want %d", c.low, c.high, n, c.count)
		}
		if rank, ok := s.First(low, high); rank != c.rank || ok != (c.count > 0) {
			t.Errorf("First(%s, %s) = %d, %t; want %d", c.low, c.high, rank, ok, c.rank)
		}
	}
}

func TestCountAndFirstOfAllRanges(t *testing.T) {
	m := newMaker(4)
	for n := range 30 {
		x := newTried(t, m.Uint64())
		for i := range n {
			x.put(memberOf(i), m.score())
		}
		bounds := boundsOf(-5, -4, -3, -1, 0, 2, 4, 5)
		for _, inf := range []int{-2, 2, math.MinInt, math.MaxInt, -1, 1} {
			bounds = append(bounds, api.Bound{N: 1, Inf: inf}, api.Bound{N: -2, Inf: inf, Open: true})
		}
		x.checkRanges(bounds...)
	}
}

// P7.4: From

func TestFromOneByOne(t *testing.T) {
	s, _ := skip.Load(1, api.Scored{M: "b", N: 1}, api.Scored{M: "a", N: 1}, api.Scored{M: "c", N: -5})
	a, b, c := told{1, api.Scored{M: "a", N: 1}}, told{2, api.Scored{M: "b", N: 1}}, told{0, api.Scored{M: "c", N: -5}}
	for _, x := range []struct {
		rank int
		back bool
		want []told
	}{
		{0, false, []told{c, a, b}}, {1, false, []told{a, b}}, {2, false, []told{b}}, {3, false, nil}, {-1, false, nil},
		{0, true, []told{c}}, {1, true, []told{a, c}}, {2, true, []told{b, a, c}}, {3, true, nil}, {-1, true, nil},
		{math.MinInt, false, nil}, {math.MaxInt, true, nil}, {math.MinInt, true, nil}, {math.MaxInt, false, nil}, {-3, false, nil},
	} {
		if l := gather(s.From(x.rank, x.back)); !slices.Equal(l, x.want) {
			t.Errorf("From(%d, %t) = %v; want %v", x.rank, x.back, l, x.want)
		}
	}
}

// some is a list of n members, some of which have one score.
func some(t *testing.T, seed uint64, n int) *tried {
	t.Helper()
	var l []api.Scored
	for i := range n {
		l = append(l, api.Scored{M: memberOf(i), N: int64(i * 5 % 7)})
	}
	return newTried(t, seed, l...)
}

func TestFromLeftAnywhere(t *testing.T) {
	for n := range 12 {
		x := some(t, 10, n)
		for rank := range n {
			for _, back := range []bool{false, true} {
				want := x.m.from(rank, back)
				for left := 1; left <= len(want); left++ {
					var l []told
					for rank, m := range x.From(rank, back) {
						l = append(l, told{rank, m})
						if len(l) == left {
							break
						}
					}
					calls := 0
					x.From(rank, back)(func(int, api.Scored) bool {
						calls++
						return calls < left
					})
					if !slices.Equal(l, want[:left]) || calls != left {
						t.Fatalf("From(%d, %t), left at the %d. member: %v, %d calls", rank, back, left, l, calls)
					}
					x.put("new", 3)
					x.del("new")
				}
			}
		}
		x.check()
	}
}

// meanwhile are calls that come while a list is ranged over, at a rank.
func meanwhile() []func(x *tried, rank int) {
	return []func(x *tried, rank int){
		func(x *tried, rank int) { x.put("new"+number(int64(rank)), int64(rank)) },
		func(x *tried, rank int) { x.put("", -9) },
		func(x *tried, rank int) { x.put("~", 9) },
		func(x *tried, rank int) { x.del(memberOf(rank)) },
		func(x *tried, rank int) { x.del(memberOf(rank + 1)) },
		func(x *tried, rank int) { x.del(memberOf(rank - 1)) },
		func(x *tried, rank int) { x.put(memberOf(rank), -1) },
		func(x *tried, rank int) { x.put(memberOf(rank), 9) },
		func(x *tried, rank int) { x.put(memberOf(rank), 4); x.del(memberOf(rank + 2)) },
		func(x *tried, rank int) { x.put(memberOf(rank), x.m[rank%len(x.m)].N) },
		func(x *tried, rank int) { x.del("none") },
		func(x *tried, rank int) {
			for x.Len() > 0 {
				x.del(x.m[0].M)
			}
			x.put("last", 0)
		},
		func(x *tried, rank int) {
			for range x.From(0, rank%2 == 0) {
				break
			}
			x.del(memberOf(rank))
			x.All()
			x.put(memberOf(rank), 0)
		},
	}
}

// It tells what there was when it was begun to be ranged over, whatever comes meanwhile.
func TestFromWithCallsMeanwhile(t *testing.T) {
	for i, call := range meanwhile() {
		for _, n := range []int{1, 2, 5, 20} {
			for from := range n {
				for _, back := range []bool{false, true} {
					for at := range n {
						x := some(t, uint64(n), n)
						want := x.m.from(from, back)
						var l []told
						for rank, m := range x.From(from, back) {
							if l = append(l, told{rank, m}); len(l) > len(want) {
								break
							}
							if rank == at || at == 0 {
								call(x, rank)
								checkList(t, x.List, x.m...)
							}
						}
						if !slices.Equal(l, want) {
							t.Fatalf("From(%d, %t) of %d, with calls %d meanwhile: %v; want %v", from, back, n, i, l, want)
						}
						x.check()
					}
				}
			}
		}
	}
}

func TestFromIsOfTheListWhenItIsRangedOver(t *testing.T) {
	x := newTried(t, 11)
	rising, falling, third := x.From(0, false), x.From(4, true), x.From(2, false)
	for i := range 9 {
		x.put(memberOf(i*4%9), int64(-i))
		if i == 6 {
			x.del(memberOf(0))
		}
		for range 2 {
			if l, want := gather(rising), x.m.from(0, false); !slices.Equal(l, want) {
				t.Fatalf("From(0, false) = %v; want %v", l, want)
			}
			if l, want := gather(falling), x.m.from(4, true); !slices.Equal(l, want) {
				t.Fatalf("From(4, true) = %v; want %v", l, want)
			}
			if l, want := gather(third), x.m.from(2, false); !slices.Equal(l, want) {
				t.Fatalf("From(2, false) = %v; want %v", l, want)
			}
		}
	}
}

// Each of the loops within one another tells what there was when it was begun.
func TestFromWithinItself(t *testing.T) {
	x := some(t, 12, 6)
	outer := x.m.from(0, false)
	var l []told
	for rank, m := range x.From(0, false) {
		if l = append(l, told{rank, m}); len(l) > len(outer) {
			break
		}
		inner, want := []told(nil), x.m.from(x.Len()-1, true)
		for rank, m := range x.From(x.Len()-1, true) {
			if inner = append(inner, told{rank, m}); len(inner) > len(want) {
				break
			}
			x.put("in"+number(int64(rank)), int64(rank))
			if rank%2 == 0 {
				x.del(memberOf(rank))
			}
		}
		if !slices.Equal(inner, want) {
			t.Fatalf("the inner loop tells %v; want %v", inner, want)
		}
		x.del(m.M)
		x.check()
	}
	if !slices.Equal(l, outer) {
		t.Fatalf("the outer loop tells %v; want %v", l, outer)
	}
}

// Loops that are halted, each where it was: each tells what there was when it was begun.
func TestFromSideBySide(t *testing.T) {
	type loop struct {
		next func() (int, api.Scored, bool)
		want []told
	}
	x := some(t, 13, 8)
	var loops []loop
	m := newMaker(5)
	for i := range 60 {
		back, rank := i%2 == 0, m.IntN(x.Len()+1)
		next, stop := iter.Pull2(x.From(rank, back))
		defer stop()
		loops = append(loops, loop{next, x.m.from(rank, back)})
		for j := range loops {
			if j < i && m.IntN(3) == 0 { // the last one is begun ahead of all calls
				continue
			}
			want := append(loops[j].want, told{})[0]
			rank, s, ok := loops[j].next()
			if (told{rank, s}) != want || ok != (len(loops[j].want) > 0) {
				t.Fatalf("the loop %d tells %d, %v, %t; want %v", j, rank, s, ok, loops[j].want)
			}
			if ok {
				loops[j].want = loops[j].want[1:]
			}
		}
		for range m.IntN(4) {
			x.anyCall(m, 12, 8)
			checkList(t, x.List, x.m...)
		}
	}
	x.check()
}

// A panic of the loop goes to it, and another one may follow.
func TestFromLeftByAPanic(t *testing.T) {
	x := some(t, 14, 9)
	for _, back := range []bool{false, true} {
		func() {
			defer func() {
				if recover() != "left" {
					t.Error("the panic did not come")
				}
			}()
			for rank := range x.From(4, back) {
				x.put(memberOf(rank), 8)
				if rank != 4 {
					panic("left")
				}
			}
		}()
		x.check()
		done := make(chan bool)
		go func() {
			defer close(done)
			for range x.From(4, back) {
				x.del(memberOf(2))
				runtime.Goexit()
			}
		}()
		<-done
		x.check()
		x.put("new", 3)
		x.check()
	}
}

// P7.5, P7.6

func TestAListIsAPlainListInOrder(t *testing.T) {
	m := newMaker(6)
	for range 60 {
		x := newTried(t, m.Uint64())
		members := 1 + m.IntN(50)
		for i := range 120 {
			puts := 8
			if i/30%2 == 1 {
				puts = 3
			}
			x.anyCall(m, members, puts)
			checkList(t, x.List, x.m...)
			if i%10 == 0 {
				x.check()
				x.checkRanges(boundsOf(-4, -1, m.score(), 4)...)
			}
		}
	}
}

func TestOrderAndRanks(t *testing.T) {
	m := newMaker(7)
	s := skip.New(15)
	for range 3000 {
		s.Put(memberOf(m.IntN(2000)), m.score())
		s.Del(memberOf(m.IntN(2000)))
	}
	all := s.All()
	if len(all) != s.Len() || len(all) < 100 {
		t.Fatalf("All are %d, Len = %d", len(all), s.Len())
	}
	for rank, a := range all {
		if rank > 0 {
			if b := all[rank-1]; b.N > a.N || b.N == a.N && b.M >= a.M {
				t.Fatalf("%v stands ahead of %v", b, a)
			}
		}
		if got, ok := s.Rank(a.M); got != rank || !ok {
			t.Fatalf("Rank(%q) = %d; want %d", a.M, got, rank)
		}
		if got, ok := s.At(rank); got != a || !ok {
			t.Fatalf("At(%d) = %v; want %v", rank, got, a)
		}
	}
	bounds := boundsOf(math.MinInt64, -4, 0, 3, all[0].N, all[len(all)-1].N, math.MaxInt64)
	for _, low := range bounds {
		for _, high := range bounds {
			n := s.Count(low, high)
			first, ok := s.First(low, high)
			if ok != (n > 0) {
				t.Fatalf("First(%v, %v) = %d, %t, Count = %d", low, high, first, ok, n)
			}
			for rank, a := range all {
				if in := ok && first <= rank && rank < first+n; in != skip.In(a.N, low, high) {
					t.Fatalf("First(%v, %v) = %d, Count = %d, and %v is of rank %d", low, high, first, n, a, rank)
				}
			}
		}
	}
}

// The seed plays a part in levels alone.
func TestSeedsPlayNoPart(t *testing.T) {
	x, y := newTried(t, 0), newTried(t, seedOf(0))
	a, b := newMaker(8), newMaker(8)
	for range 300 {
		x.anyCall(a, 40, 7)
		y.anyCall(b, 40, 7)
		if !slices.Equal(x.All(), y.All()) {
			t.Fatalf("%v and %v", x.All(), y.All())
		}
	}
	x.check()
	y.check()
}

// Rule 3: a list that is nil, or that no call made

func checkNoList(t *testing.T, s *skip.List) {
	t.Helper()
	low, high := api.Bound{Inf: -1}, api.Bound{Inf: 1}
	for range 2 {
		if s.Put("a", 1) || s.Put("", 0) || s.Del("a") || s.Del("") {
			t.Fatal("something is put into, or taken out of, no list")
		}
		if s.Len() != 0 || len(s.All()) != 0 || s.Count(low, high) != 0 {
			t.Fatalf("Len = %d, All = %v, Count = %d", s.Len(), s.All(), s.Count(low, high))
		}
		if rank, ok := s.First(low, high); rank != 0 || ok {
			t.Fatalf("First = %d, %t", rank, ok)
		}
		for _, member := range []string{"", "a"} {
			checkNone(t, s, member)
		}
		for _, rank := range ranksOf(0) {
			if m, ok := s.At(rank); m != (api.Scored{}) || ok {
				t.Fatalf("At(%d) = %v, %t", rank, m, ok)
			}
			for _, back := range []bool{false, true} {
				for rank, m := range s.From(rank, back) {
					t.Fatalf("From tells %d, %v", rank, m)
				}
			}
		}
	}
}

func TestListsThatAreNone(t *testing.T) {
	checkNoList(t, nil)
	checkNoList(t, &skip.List{})
	checkNoList(t, new(skip.List))
	var in struct {
		name string
		skip.List
	}
	checkNoList(t, &in.List)
	s, _ := skip.Load(0, api.Scored{}, api.Scored{})
	checkNoList(t, s)
}

// A copy would share its members with the list: no call made it.
func TestACopyIsNoList(t *testing.T) {
	x := some(t, 16, 9)
	copied := *x.List
	checkNoList(t, &copied)
	x.check()
	x.put("a", 3)
	x.del(memberOf(3))
	x.check()
	checkNoList(t, &copied)
}

// Rule 4: new memory

func TestMembersAreNeitherKeptNorShared(t *testing.T) {
	given := strings.Repeat("a member that stands in memory of its own ", 2)
	seen := map[*byte]bool{unsafe.StringData(given): true}
	check := func(name, member string) {
		if member != given {
			t.Errorf("%s tells %q", name, member)
		}
		if seen[unsafe.StringData(member)] {
			t.Errorf("%s shares memory", name)
		}
		seen[unsafe.StringData(member)] = true
	}
	x := skip.New(0)
	x.Put(given, 1)
	y, _ := skip.Load(0, api.Scored{M: given, N: 1})
	for _, s := range []*skip.List{x, y} {
		for range 2 {
			for _, m := range s.From(0, true) {
				check("From", m.M)
			}
			for _, m := range s.All() {
				check("All", m.M)
			}
			for range 2 {
				m, _ := s.At(0)
				check("At", m.M)
			}
			s.Put(given, 2)
		}
	}
}

func TestWhatIsHandedInIsNotKept(t *testing.T) {
	memory := []byte("member")
	given := unsafe.String(&memory[0], len(memory))
	x := skip.New(0)
	x.Put(given, 1)
	y, _ := skip.Load(0, api.Scored{M: given, N: 1})
	copy(memory, "MEMBER")
	for _, s := range []*skip.List{x, y} {
		checkList(t, s, api.Scored{M: "member", N: 1})
	}
}

func TestAllInMemoryOfItsOwn(t *testing.T) {
	x := some(t, 17, 9)
	a, b := x.All(), x.All()
	for i := range a {
		a[i] = api.Scored{M: "x", N: -1}
	}
	_ = append(a, api.Scored{M: "y"})
	_ = append(a[:0], api.Scored{M: "z"})
	x.check()
	if !slices.Equal(b, x.m) {
		t.Fatalf("two lists share memory: %v", b)
	}
	was := slices.Clone(b)
	x.put("a", -1)
	x.del(memberOf(4))
	if !slices.Equal(b, was) {
		t.Fatalf("a list and what it told share memory: %v", b)
	}
}

func TestListsApart(t *testing.T) {
	x, y := some(t, 18, 20), some(t, 18, 20)
	z := newTried(t, 18, x.All()...)
	for i := range 20 {
		x.del(memberOf(i))
		z.put(memberOf(i), -1)
	}
	x.check()
	y.check()
	z.check()
}

// Great lists take no time that grows with the square of their members.
func TestAGreatList(t *testing.T) {
	const n = api.MaxLen
	s := skip.New(19)
	var l []api.Scored
	for i := range n {
		m := api.Scored{M: memberOf(i), N: int64(i * 40503 % n)}
		s.Put(m.M, m.N)
		l = append(l, m)
	}
	loaded, _ := skip.Load(20, l...)
	for _, s := range []*skip.List{s, loaded} {
		for i := range n {
			if rank, ok := s.Rank(memberOf(i)); rank != i*40503%n || !ok {
				t.Fatalf("Rank(%q) = %d, %t", memberOf(i), rank, ok)
			}
			if m, ok := s.At(i); m.N != int64(i) || !ok {
				t.Fatalf("At(%d) = %v, %t", i, m, ok)
			}
			for rank, m := range s.From(i, i%2 == 0) {
				if rank != i || m.N != int64(i) {
					t.Fatalf("From(%d) tells %d, %v", i, rank, m)
				}
				break
			}
			low := api.Bound{N: int64(i), Open: true}
			if c := s.Count(low, api.Bound{Inf: 1}); c != n-i-1 {
				t.Fatalf("Count of (%d to +inf = %d", i, c)
			}
		}
		for i := range n {
			for range s.From(i, true) {
				break
			}
			s.Put(memberOf(i), -int64(i))
		}
		if m, ok := s.At(0); m.N != 1-n || !ok {
			t.Fatalf("At(0) = %v, %t", m, ok)
		}
		for i := range n {
			if !s.Del(memberOf(i)) {
				t.Fatalf("Del(%q)", memberOf(i))
			}
		}
		checkList(t, s)
	}
}
