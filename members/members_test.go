package members_test

import (
	"math"
	"slices"
	"strings"
	"testing"
	"unsafe"

	"millpond/api"
	"millpond/members"
)

// The examples

func TestTheExamples(t *testing.T) {
	checkRow(t, "Of", "b, a, b", members.Of("b", "a", "b"), api.OK, []string{"a", "b"})
	l, n, e := members.Add([]string{"a", "b"}, "b", "c", "c")
	checkRow(t, "Add", "a, b; b, c, c", l, e, []string{"a", "b", "c"})
	check(t, "how many Add added", n, 1)
	l, e = members.Some([]string{"a", "b", "c"}, 2, 5)
	checkRow(t, "Some, n 2, draw 5,", "a, b, c", l, e, []string{"c", "b"})
}

// P8.1: Check

func TestCheck(t *testing.T) {
	for _, c := range []struct {
		s    []string
		want api.Errno
	}{
		{nil, api.OK},
		{[]string{}, api.OK},
		{[]string{""}, api.OK},
		{[]string{"a"}, api.OK},
		{[]string{"\xff"}, api.OK},
		{[]string{"a", "b"}, api.OK},
		{[]string{"a", "b", "c", "d"}, api.OK},
		{[]string{"", "a"}, api.OK},
		{[]string{"", "\x00"}, api.OK},
		{[]string{"a", "a\x00"}, api.OK},
		{[]string{"a", "aa", "b"}, api.OK},
		{[]string{"B", "a"}, api.OK},
		{[]string{"10", "9"}, api.OK},
		{[]string{"z", "ä"}, api.OK},
		{[]string{"\x7f", "\x80", "\xff", "\xff\x00"}, api.OK},
		{[]string{strings.Repeat("a", 1<<17), strings.Repeat("a", 1<<17) + "a"}, api.OK},
		{[]string{"b", "a"}, api.ErrSet},
		{[]string{"a", "a"}, api.ErrSet},
		{[]string{"", ""}, api.ErrSet},
		{[]string{"a", ""}, api.ErrSet},
		{[]string{"a", "", "b"}, api.ErrSet},
		{[]string{"", "a", ""}, api.ErrSet},
		{[]string{"a", "c", "b"}, api.ErrSet},
		{[]string{"b", "a", "c"}, api.ErrSet},
		{[]string{"a", "b", "a"}, api.ErrSet},
		{[]string{"a", "b", "b"}, api.ErrSet},
		{[]string{"a", "a", "b"}, api.ErrSet},
		{[]string{"a", "b", "b", "c"}, api.ErrSet},
		{[]string{"c", "b", "a"}, api.ErrSet},
		{[]string{"a", "B"}, api.ErrSet},
		{[]string{"9", "10"}, api.ErrSet},
		{[]string{"aa", "a"}, api.ErrSet},
		{[]string{"a\x00", "a"}, api.ErrSet},
		{[]string{"\x80", "\x7f"}, api.ErrSet},
		{[]string{"\xff", "\xfe"}, api.ErrSet},
	} {
		if e := members.Check(c.s); e != c.want {
			t.Errorf("Check of %.40q = %v; want %v", c.s, e, c.want)
		}
	}
}

func TestCheckOfAllRows(t *testing.T) {
	for _, s := range rows(4, texts...) {
		if e := members.Check(s); e != modelCheck(s) {
			t.Fatalf("Check of %q = %v", s, e)
		}
	}
}

// A great set that is none at one place, wherever that is.
func TestCheckAtEachPlace(t *testing.T) {
	s := great(2000)
	check(t, "Check of a great set", members.Check(s), api.OK)
	for i := 1; i < len(s); i++ {
		was := s[i]
		for _, x := range []string{s[i-1], "", "l"} {
			s[i] = x
			if e := members.Check(s); e != api.ErrSet {
				t.Fatalf("Check with %q at %d, behind %q, = %v", x, i, s[i-1], e)
			}
		}
		s[i] = was
	}
}

// P8.1: Of

func TestOf(t *testing.T) {
	for _, c := range []struct{ l, want []string }{
		{nil, nil},
		{[]string{}, nil},
		{[]string{""}, []string{""}},
		{[]string{"a"}, []string{"a"}},
		{[]string{"a", "b", "c"}, []string{"a", "b", "c"}},
		{[]string{"c", "b", "a"}, []string{"a", "b", "c"}},
		{[]string{"b", "c", "a"}, []string{"a", "b", "c"}},
		{[]string{"a", "a"}, []string{"a"}},
		{[]string{"", ""}, []string{""}},
		{[]string{"b", "a", "b", "a", "b"}, []string{"a", "b"}},
		{[]string{"a", "", "b", ""}, []string{"", "a", "b"}},
		{[]string{"\xff", "a", "\x00", "é", "", "Z", "10", "9"}, []string{"", "\x00", "10", "9", "Z", "a", "é", "\xff"}},
		{[]string{"aa", "a\x00", "a", "ab"}, []string{"a", "a\x00", "aa", "ab"}},
	} {
		checkRow(t, "Of", c.l, members.Of(c.l...), api.OK, c.want)
	}
	for _, l := range rows(4, texts...) {
		checkRow(t, "Of", l, members.Of(l...), api.OK, modelOf(l...))
	}
	m := newMaker(1)
	for range 500 {
		l := m.row(200, 150)
		checkRow(t, "Of", l, members.Of(l...), api.OK, modelOf(l...))
	}
}

// P8.1: Has

func TestHas(t *testing.T) {
	for _, c := range []struct {
		s    []string
		x    string
		want bool
	}{
		{nil, "", false}, {nil, "a", false}, {[]string{}, "a", false},
		{[]string{""}, "", true}, {[]string{""}, "a", false}, {[]string{"a"}, "", false}, {[]string{"a"}, "a", true},
		{[]string{"b"}, "a", false}, {[]string{"b"}, "b", true}, {[]string{"b"}, "c", false},
		{[]string{"b", "d", "f"}, "a", false}, {[]string{"b", "d", "f"}, "b", true}, {[]string{"b", "d", "f"}, "c", false}, {[]string{"b", "d", "f"}, "d", true},
		{[]string{"b", "d", "f"}, "e", false}, {[]string{"b", "d", "f"}, "f", true}, {[]string{"b", "d", "f"}, "g", false}, {[]string{"b", "d", "f"}, "", false},
		{[]string{"ab"}, "a", false}, {[]string{"ab"}, "abc", false}, {[]string{"ab"}, "AB", false}, {[]string{"ab"}, "b", false}, {[]string{"\xff"}, "\xff", true},
	} {
		if got, e := members.Has(c.s, c.x); got != c.want || e != api.OK {
			t.Errorf("Has of %q, %q = %t, %v; want %t", c.s, c.x, got, e, c.want)
		}
	}
	for _, s := range subsets(texts...) {
		for _, x := range append(texts, "c", "\xff", "aaa") {
			if got, e := members.Has(s, x); got != slices.Contains(s, x) || e != api.OK {
				t.Fatalf("Has of %q, %q = %t, %v", s, x, got, e)
			}
		}
	}
}

func TestHasOfGreatSets(t *testing.T) {
	for n := range 200 {
		s := great(n)
		for i, x := range s {
			for _, c := range []struct {
				x    string
				want bool
			}{{x, true}, {x + "\x00", false}, {x[:len(x)-1], false}, {s[0][:1], false}, {"n", false}} {
				if got, e := members.Has(s, c.x); got != c.want || e != api.OK {
					t.Fatalf("Has of %d members, %q (%d) = %t, %v; want %t", n, c.x, i, got, e, c.want)
				}
			}
		}
	}
}

// P8.2: Add, Del

func TestAddAndDel(t *testing.T) {
	for _, c := range []struct {
		s, l      []string
		more, few []string
		new, gone int
	}{
		{},
		{s: []string{}, l: []string{}},
		{l: []string{"a"}, more: []string{"a"}, new: 1},
		{l: []string{""}, more: []string{""}, new: 1},
		{l: []string{"b", "a", "b"}, more: []string{"a", "b"}, new: 2},
		{s: []string{"a", "b"}, more: []string{"a", "b"}, few: []string{"a", "b"}},
		{s: []string{"b"}, l: []string{"a"}, more: []string{"a", "b"}, few: []string{"b"}, new: 1},
		{s: []string{"b"}, l: []string{"c"}, more: []string{"b", "c"}, few: []string{"b"}, new: 1},
		{s: []string{"b"}, l: []string{"b"}, more: []string{"b"}, gone: 1},
		{s: []string{"b"}, l: []string{"b", "b"}, more: []string{"b"}, gone: 1},
		{s: []string{"b"}, l: []string{"c", "c"}, more: []string{"b", "c"}, few: []string{"b"}, new: 1},
		{s: []string{"b"}, l: []string{""}, more: []string{"", "b"}, few: []string{"b"}, new: 1},
		{s: []string{"", "b"}, l: []string{"", ""}, more: []string{"", "b"}, few: []string{"b"}, gone: 1},
		{s: []string{"a", "b"}, l: []string{"b", "c", "c"}, more: []string{"a", "b", "c"}, few: []string{"a"}, new: 1, gone: 1},
		{s: []string{"a", "c"}, l: []string{"d", "b", "a", "b"}, more: []string{"a", "b", "c", "d"}, few: []string{"c"}, new: 2, gone: 1},
		{s: []string{"a", "b", "c"}, l: []string{"c", "a", "b", "a"}, more: []string{"a", "b", "c"}, gone: 3},
		{s: []string{"a", "b", "c"}, l: []string{"C", "aa", "\xff"}, more: []string{"C", "a", "aa", "b", "c", "\xff"}, few: []string{"a", "b", "c"}, new: 3},
	} {
		args := [][]string{c.s, c.l}
		l, n, e := members.Add(c.s, c.l...)
		checkRow(t, "Add", args, l, e, c.more)
		check(t, "how many Add added", n, c.new)
		l, n, e = members.Del(c.s, c.l...)
		checkRow(t, "Del", args, l, e, c.few)
		check(t, "how many Del took", n, c.gone)
	}
}

func TestAddAndDelOfAllSorts(t *testing.T) {
	for _, s := range subsets(texts...) {
		for _, l := range rows(3, texts...) {
			checkAdd(t, s, l...)
		}
	}
	m := newMaker(2)
	for range 2000 {
		checkAdd(t, m.set(60, 80), m.row(60, 80)...)
	}
}

// P8.3: Union, Meet, Less

func TestUnionMeetAndLess(t *testing.T) {
	abc, bcd, cde := []string{"a", "b", "c"}, []string{"b", "c", "d"}, []string{"c", "d", "e"}
	for _, c := range []struct {
		l                 [][]string
		union, meet, less []string
	}{
		{},
		{l: [][]string{nil}},
		{l: [][]string{{}, nil, {}}},
		{l: [][]string{abc}, union: abc, meet: abc, less: abc},
		{l: [][]string{{""}}, union: []string{""}, meet: []string{""}, less: []string{""}},
		{l: [][]string{{""}, {"a"}}, union: []string{"", "a"}, less: []string{""}},
		{l: [][]string{abc, nil}, union: abc, less: abc},
		{l: [][]string{nil, abc}, union: abc},
		{l: [][]string{abc, abc}, union: abc, meet: abc},
		{l: [][]string{abc, abc, abc}, union: abc, meet: abc},
		{l: [][]string{abc, bcd}, union: []string{"a", "b", "c", "d"}, meet: []string{"b", "c"}, less: []string{"a"}},
		{l: [][]string{bcd, abc}, union: []string{"a", "b", "c", "d"}, meet: []string{"b", "c"}, less: []string{"d"}},
		{l: [][]string{abc, {"x", "y"}}, union: []string{"a", "b", "c", "x", "y"}, less: abc},
		{l: [][]string{{"x", "y"}, abc}, union: []string{"a", "b", "c", "x", "y"}, less: []string{"x", "y"}},
		{l: [][]string{abc, bcd, cde}, union: []string{"a", "b", "c", "d", "e"}, meet: []string{"c"}, less: []string{"a"}},
		{l: [][]string{cde, bcd, abc}, union: []string{"a", "b", "c", "d", "e"}, meet: []string{"c"}, less: []string{"e"}},
		{l: [][]string{abc, cde, bcd, nil}, union: []string{"a", "b", "c", "d", "e"}, less: []string{"a"}},
		{l: [][]string{abc, {"a"}, {"b"}, {"c"}}, union: abc},
		{l: [][]string{abc, {"b"}, {"b"}, {"b"}}, union: abc, meet: []string{"b"}, less: []string{"a", "c"}},
		{l: [][]string{abc, {"c"}, {"a"}, {"x"}}, union: []string{"a", "b", "c", "x"}, less: []string{"b"}},
	} {
		l, e := members.Union(c.l...)
		checkRow(t, "Union", c.l, l, e, c.union)
		l, e = members.Meet(c.l...)
		checkRow(t, "Meet", c.l, l, e, c.meet)
		l, e = members.Less(c.l...)
		checkRow(t, "Less", c.l, l, e, c.less)
	}
}

func TestSetsOfAllSorts(t *testing.T) {
	all := subsets(texts...)
	for _, a := range all {
		checkSets(t, a)
		for _, b := range all {
			checkSets(t, a, b)
		}
	}
	all = subsets("", "a", "aa", "b")
	for _, a := range all {
		for _, b := range all {
			for _, c := range all {
				checkSets(t, a, b, c)
			}
		}
	}
	m := newMaker(3)
	for range 1000 {
		l := make([][]string, m.IntN(12))
		for i := range l {
			l[i] = m.set(60, 40)
		}
		if len(l) > 0 {
			checkSets(t, l...)
		}
	}
}

// P8.5: an algebra

func TestUnionAndMeetHangOnNoOrder(t *testing.T) {
	m := newMaker(4)
	for n := range 10 {
		for range 50 {
			l := make([][]string, n)
			for i := range l {
				l[i] = m.set(30, 25)
			}
			union, _ := members.Union(l...)
			meet, _ := members.Meet(l...)
			m.Shuffle(n, func(i, j int) { l[i], l[j] = l[j], l[i] })
			got, e := members.Union(l...)
			checkRow(t, "Union", l, got, e, union)
			got, e = members.Meet(l...)
			checkRow(t, "Meet", l, got, e, meet)
		}
	}
}

func TestLessAndMeetAreTheWhole(t *testing.T) {
	m := newMaker(5)
	pairs := [][2][]string{}
	for _, a := range subsets(texts...) {
		for _, b := range subsets(texts...) {
			pairs = append(pairs, [2][]string{a, b})
		}
	}
	for range 500 {
		pairs = append(pairs, [2][]string{m.set(50, 40), m.set(50, 40)})
	}
	for _, p := range pairs {
		less, _ := members.Less(p[0], p[1])
		meet, _ := members.Meet(p[0], p[1])
		whole, e := members.Union(less, meet)
		checkRow(t, "Union of Less and Meet", p, whole, e, p[0])
		common, e := members.Meet(less, meet)
		checkRow(t, "Meet of Less and Meet", p, common, e, nil)
	}
}

// What Add and Del tell is what Union and Less tell of the set of the texts.
func TestAddIsUnionAndDelIsLess(t *testing.T) {
	m := newMaker(6)
	for range 500 {
		s, l := m.set(50, 40), m.row(50, 40)
		more, _, _ := members.Add(s, l...)
		union, e := members.Union(s, members.Of(l...))
		checkRow(t, "Union", [][]string{s, l}, union, e, more)
		few, _, _ := members.Del(s, l...)
		less, e := members.Less(s, members.Of(l...))
		checkRow(t, "Less", [][]string{s, l}, less, e, few)
	}
}

// P8.4: Pick

func TestPick(t *testing.T) {
	abc := []string{"a", "b", "c"}
	for _, c := range []struct {
		s    []string
		draw uint64
		want string
		ok   bool
	}{
		{nil, 0, "", false}, {nil, 1, "", false}, {[]string{}, math.MaxUint64, "", false},
		{[]string{""}, 0, "", true}, {[]string{""}, math.MaxUint64, "", true}, {[]string{"a"}, 0, "a", true}, {[]string{"a"}, 1 << 63, "a", true},
		{abc, 0, "a", true}, {abc, 1, "b", true}, {abc, 2, "c", true}, {abc, 3, "a", true}, {abc, 4, "b", true}, {abc, 5, "c", true}, {abc, 6, "a", true},
		{abc, 1<<32 - 1, "a", true}, {abc, 1 << 32, "b", true}, {abc, 1<<63 - 1, "b", true}, {abc, 1 << 63, "c", true}, {abc, 1<<63 + 1, "a", true},
		{abc, math.MaxUint64 - 1, "c", true}, {abc, math.MaxUint64, "a", true},
		{[]string{"a", "b"}, math.MaxUint64, "b", true}, {[]string{"a", "b"}, 1 << 63, "a", true},
		{[]string{"", "a", "b", "c", "d", "e", "f"}, math.MaxUint64, "a", true}, {[]string{"", "a", "b", "c", "d", "e", "f"}, 1 << 63, "a", true},
	} {
		if got, ok, e := members.Pick(c.s, c.draw); got != c.want || ok != c.ok || e != api.OK {
			t.Errorf("Pick of %q, %d = %q, %t, %v; want %q, %t", c.s, c.draw, got, ok, e, c.want, c.ok)
		}
	}
}

func TestPickOfAllSizes(t *testing.T) {
	m := newMaker(7)
	for n := 1; n < 100; n++ {
		s := great(n)
		for _, draw := range append(m.draws(20), uint64(n)-1, uint64(n), uint64(n)+1, math.MaxUint64/uint64(n)*uint64(n), math.MaxUint64/uint64(n)*uint64(n)-1) {
			want := s[modulo(modelDraws(draw, 1)[0], n)]
			if got, ok, e := members.Pick(s, draw); got != want || !ok || e != api.OK {
				t.Fatalf("Pick of %d members, %d = %q, %t, %v; want %q", n, draw, got, ok, e, want)
			}
		}
	}
}

// P8.4: Some

// The rows were worked out apart from the model: the draws behind 5 are 14816632086413376816, 2587011477941047999, 15135621383883345378, 5708384388322840585, 8167029563758283236.
func TestSomeByHand(t *testing.T) {
	for _, c := range []struct {
		s    string
		n    int
		draw uint64
		want string
	}{
		{"", 0, 5, ""}, {"", 3, 5, ""}, {"", -3, 5, ""}, {"", api.MaxKeys, 5, ""}, {"", -api.MaxArgs, 5, ""},
		{"x", 0, 5, ""}, {"x", 1, 5, "x"}, {"x", 2, 5, "x"}, {"x", -1, 5, "x"}, {"x", -4, 5, "xxxx"},
		{"abc", 0, 5, ""}, {"abc", 1, 5, "c"}, {"abc", 2, 5, "cb"}, {"abc", 3, 5, "cba"}, {"abc", 4, 5, "cba"}, {"abc", api.MaxKeys, 5, "cba"},
		{"abc", -1, 5, "c"}, {"abc", -2, 5, "ca"}, {"abc", -3, 5, "cab"}, {"abc", -4, 5, "caba"}, {"abc", -5, 5, "cabab"}, {"abc", -6, 5, "cababb"},
		{"abcdefg", 7, 0, "acdebgf"}, {"abcdefg", 4, 0, "acde"}, {"abcdefg", 7, 1, "bfgacde"}, {"abcdefg", 4, 1, "bfga"},
		{"abcdefg", 7, math.MaxUint64, "bdgafec"}, {"abcdefg", 4, math.MaxUint64, "bdga"}, {"abcdefg", 7, 1 << 63, "begacdf"},
		{"abcdefg", 7, 12345678901234567890, "befgcda"}, {"abcdefg", 8, 12345678901234567890, "befgcda"}, {"abcdefg", 1, 12345678901234567890, "b"},
		{"abcdefg", -9, 0, "aabccgega"}, {"abcdefg", -9, 1, "bfcebfcac"}, {"abcdefg", -9, math.MaxUint64, "becadcgaf"},
		{"abcdefg", -9, 1 << 63, "bbcbdadab"}, {"abcdefg", -9, 12345678901234567890, "bedegeage"},
	} {
		got, e := members.Some(split(c.s), c.n, c.draw)
		if strings.Join(got, "") != c.want || len(got) != len(c.want) || e != api.OK {
			t.Errorf("Some of %s, n %d, draw %d = %q, %v; want %s", c.s, c.n, c.draw, got, e, c.want)
		}
	}
}

// split are the letters of a text.
func split(s string) []string {
	if s == "" {
		return nil
	}
	return strings.Split(s, "")
}

func TestSomeOfAllSorts(t *testing.T) {
	m := newMaker(8)
	for size := range 12 {
		s := great(size)
		for n := -15; n <= 15; n++ {
			for _, draw := range m.draws(5) {
				checkSome(t, s, n, draw)
			}
		}
	}
	for range 300 {
		checkSome(t, m.set(100, 80), m.IntN(300)-150, m.Uint64())
	}
}

func TestSomeAtItsBounds(t *testing.T) {
	m := newMaker(9)
	for _, size := range []int{0, 1, 2, 3, 1000, 1024, 1025, api.MaxKeys - 1, api.MaxKeys, api.MaxKeys + 1, api.MaxKeys + 1000} {
		s := great(size)
		draw := m.Uint64()
		for _, n := range []int{-api.MaxArgs, 1 - api.MaxArgs, -1, 0, 1, api.MaxArgs, api.MaxKeys - 1, api.MaxKeys} {
			checkSome(t, s, n, draw)
			want := min(max(n, 0), size)
			if n < 0 && size > 0 {
				want = -n
			}
			if l, _ := members.Some(s, n, draw); len(l) != want {
				t.Errorf("Some of %d members, n %d, tells %d; want %d", size, n, len(l), want)
			}
		}
		for _, n := range []int{math.MinInt, math.MinInt + 1, -1 << 32, -api.MaxKeys, -api.MaxArgs - 2, -api.MaxArgs - 1, api.MaxKeys + 1, api.MaxKeys + 2, 1 << 32, math.MaxInt - 1, math.MaxInt} {
			if l, e := members.Some(s, n, draw); len(l) != 0 || e != api.ErrArg {
				t.Errorf("Some of %d members, n %d, = %d members, %v; want ErrArg", size, n, len(l), e)
			}
		}
	}
}

func TestPickIsTheFirstOfSome(t *testing.T) {
	m := newMaker(10)
	for size := 1; size < 30; size++ {
		s := great(size)
		for _, draw := range m.draws(10) {
			x, _, _ := members.Pick(s, draw)
			for _, n := range []int{-size, -1, 1, size, size + 1} {
				if l, e := members.Some(s, n, draw); len(l) == 0 || l[0] != x || e != api.OK {
					t.Fatalf("Some of %d members, n %d, draw %d = %q, %v; the first is to be %q", size, n, draw, l, e, x)
				}
			}
		}
	}
}

// Each member below 0 is Pick of its own draw.
func TestSomeOfDrawsOneByOne(t *testing.T) {
	m := newMaker(11)
	for _, draw := range m.draws(10) {
		s := great(100)
		l, e := members.Some(s, -50, draw)
		if len(l) != 50 || e != api.OK {
			t.Fatalf("Some of n -50 = %q, %v", l, e)
		}
		for i, x := range modelDraws(draw, 50) {
			if want, _, _ := members.Pick(s, x.Uint64()); l[i] != want {
				t.Fatalf("Some of n -50, draw %d, has %q at %d; want %q", draw, l[i], i, want)
			}
		}
	}
}

// P8.6: some

func TestSomeTellsMembersOnceEach(t *testing.T) {
	m := newMaker(12)
	for range 2000 {
		s := m.set(40, 60)
		n := m.IntN(100) - 50
		l, e := members.Some(s, n, m.Uint64())
		if e != api.OK {
			t.Fatalf("Some of %q, n %d = %v", s, n, e)
		}
		for _, x := range l {
			if !slices.Contains(s, x) {
				t.Fatalf("Some of %q, n %d, tells %q, which is no member", s, n, x)
			}
		}
		if once := members.Of(l...); n >= 0 && (len(once) != len(l) || len(l) != min(n, len(s))) {
			t.Fatalf("Some of %q, n %d, tells %q", s, n, l)
		}
	}
}

// ErrSet

// noSets are rows that are none, each at another place.
func noSets() [][]string {
	return [][]string{
		{"b", "a"}, {"a", "a"}, {"", ""}, {"a", ""}, {"\xff", "a"}, {"a", "A"},
		{"a", "a", "b"}, {"b", "a", "c"}, {"a", "c", "b"}, {"a", "b", "b"}, {"a", "b", ""}, {"a", "b", "c", "c"},
		append(great(3000), "a"), append(great(3000), great(3000)[2999]), append([]string{"n"}, great(3000)...),
	}
}

func TestErrSet(t *testing.T) {
	for _, s := range noSets() {
		check(t, "Check", members.Check(s), api.ErrSet)
		for _, x := range []string{"", "a", "b", "x", s[0], s[len(s)-1]} {
			if there, e := members.Has(s, x); there || e != api.ErrSet {
				t.Errorf("Has of %.40q = %t, %v; want ErrSet", s, there, e)
			}
			for _, l := range [][]string{nil, {x}, {x, x}, s} {
				if got, n, e := members.Add(s, l...); len(got) != 0 || n != 0 || e != api.ErrSet {
					t.Errorf("Add to %.40q = %.40q, %d, %v; want ErrSet", s, got, n, e)
				}
				if got, n, e := members.Del(s, l...); len(got) != 0 || n != 0 || e != api.ErrSet {
					t.Errorf("Del of %.40q = %.40q, %d, %v; want ErrSet", s, got, n, e)
				}
			}
		}
		for _, draw := range []uint64{0, 1, 2, math.MaxUint64} {
			if x, ok, e := members.Pick(s, draw); x != "" || ok || e != api.ErrSet {
				t.Errorf("Pick of %.40q = %q, %t, %v; want ErrSet", s, x, ok, e)
			}
		}
	}
}

func TestErrSetOfEachOfSomeSets(t *testing.T) {
	sets := [][]string{nil, {"a"}, {"a", "b"}, {}, {"", "a", "b", "c"}, {"x"}}
	calls := map[string]func(...[]string) ([]string, api.Errno){"Union": members.Union, "Meet": members.Meet, "Less": members.Less}
	for _, s := range noSets() {
		for n := range len(sets) + 1 {
			for place := range n + 1 {
				l := slices.Insert(slices.Clone(sets[:n]), place, s)
				for name, call := range calls {
					if got, e := call(l...); len(got) != 0 || e != api.ErrSet {
						t.Errorf("%s of %.60q = %.40q, %v; want ErrSet", name, l, got, e)
					}
				}
			}
		}
	}
}

// What is handed in one by one is no set, and need be none.
func TestNoErrSetOfTexts(t *testing.T) {
	for _, l := range noSets() {
		checkRow(t, "Of", l, members.Of(l...), api.OK, modelOf(l...))
		checkAdd(t, []string{"a", "b"}, l...)
		checkAdd(t, nil, l...)
	}
}

// ErrSet is named ahead of ErrArg.
func TestErrSetAheadOfErrArg(t *testing.T) {
	for _, s := range noSets() {
		for _, n := range []int{math.MinInt, -api.MaxArgs - 1, -api.MaxArgs, -1, 0, 1, api.MaxKeys, api.MaxKeys + 1, math.MaxInt} {
			if l, e := members.Some(s, n, 5); len(l) != 0 || e != api.ErrSet {
				t.Errorf("Some of %.40q, n %d = %.40q, %v; want ErrSet", s, n, l, e)
			}
		}
	}
}

// Rules 4 and 5: nothing that is handed in is changed or kept, what is told shares nothing with it, and the same comes again

// told is all that the package tells of two rows; texts of the second one are handed in one by one, too.
func told(a, b []string) [][]string {
	var l [][]string
	row := func(s []string) { l = append(l, s) }
	row(members.Of(a...))
	more, _, _ := members.Add(a, b...)
	row(more)
	few, _, _ := members.Del(a, b...)
	row(few)
	for _, sets := range [][][]string{{a}, {a, b}, {b, a}, {a, a}, {a, nil}, {nil, a}, {a, b, a}} {
		for _, call := range []func(...[]string) ([]string, api.Errno){members.Union, members.Meet, members.Less} {
			s, _ := call(sets...)
			row(s)
		}
	}
	for _, n := range []int{-5, -1, 0, 1, 2, len(a), len(a) + 1} {
		s, _ := members.Some(a, n, 12345)
		row(s)
	}
	x, _, _ := members.Pick(a, 3)
	row([]string{x})
	members.Check(a)
	members.Has(a, x)
	return l
}

// same holds rows against rows.
func same(a, b [][]string) bool { return slices.EqualFunc(a, b, slices.Equal[[]string]) }

func clone(l [][]string) [][]string {
	c := make([][]string, len(l))
	for i, s := range l {
		c[i] = slices.Clone(s)
	}
	return c
}

func TestNothingHandedInIsChanged(t *testing.T) {
	for _, p := range [][2][]string{
		{{"a", "b", "c", "d"}, {"b", "d", "e"}},
		{{"b", "d", "e"}, {"a", "b", "c", "d"}},
		{{"d", "a", "c", "a", "d"}, {"b", "b", "a"}}, // no sets
		{great(500), great(300)[100:]},
	} {
		a := append(slices.Clone(p[0]), "behind", "it")[:len(p[0])] // there is room behind the row, with texts that must stay
		b := append(slices.Clone(p[1]), "behind", "it")[:len(p[1])]
		told(a, b)
		told(b, a)
		wholeA, wholeB := a[:len(a)+2], b[:len(b)+2]
		if !slices.Equal(wholeA, append(slices.Clone(p[0]), "behind", "it")) || !slices.Equal(wholeB, append(slices.Clone(p[1]), "behind", "it")) {
			t.Fatalf("the rows are %.200q and %.200q now; they were %.200q", wholeA, wholeB, p)
		}
		sets := [][]string{a, nil, b, {}, a}
		was := clone(sets)
		members.Union(sets...)
		members.Meet(sets...)
		members.Less(sets...)
		if !same(sets, was) {
			t.Fatalf("the sets are %.200q now; they were %.200q", sets, was)
		}
	}
}

func TestWhatIsToldSharesNoRow(t *testing.T) {
	a, b := great(40)[:20], great(40)[10:30]
	first, second := told(a, b), told(a, b)
	was := clone(first)
	if !same(second, was) {
		t.Fatal("the same calls tell something else")
	}
	for i, s := range second { // whatever is done to one row, no other one changes
		for j := range s {
			s[j] = "x"
		}
		full := s[:cap(s)]
		for j := range full {
			full[j] = "y"
		}
		clear(s)
		for k := i + 1; k < len(second); k++ {
			if !slices.Equal(second[k], was[k]) {
				t.Fatalf("rows %d and %d of those that are told share memory", i, k)
			}
		}
	}
	if !same(first, was) {
		t.Fatal("rows that two calls tell share memory")
	}
	if !slices.Equal(a, great(20)) || !slices.Equal(b, great(30)[10:]) {
		t.Fatal("a row that is told shares memory with one that was handed in")
	}
	for i := range a {
		a[i] = "z"
	}
	if !same(first, was) {
		t.Fatal("a row that is told shares memory with one that was handed in")
	}
}

// An empty row may have room for more, with texts that are not its own.
func TestWhatIsToldSharesNoRoom(t *testing.T) {
	a, b := great(9), great(9)
	for _, s := range append(told(a[:0], b[:0]), told(a[:0], b[:4])...) {
		full := s[:cap(s)]
		for i := range full {
			full[i] = "x"
		}
	}
	if !slices.Equal(a, great(9)) || !slices.Equal(b, great(9)) {
		t.Fatal("a row that is told has its room in one that was handed in")
	}
}

// The texts that are told lie in memory of their own, too.
func TestWhatIsToldSharesNoText(t *testing.T) {
	memory := []byte("abcdefgh")
	whole := unsafe.String(&memory[0], len(memory))
	var a []string
	for i := range memory {
		a = append(a, whole[i:i+1])
	}
	b := []string{a[1], a[3], whole[5:]}
	got := told(a, b)
	want := told(strings.Split("abcdefgh", ""), []string{"b", "d", "fgh"})
	if !same(got, want) {
		t.Fatalf("told %q; want %q", got, want)
	}
	copy(memory, "........")
	if !same(got, want) {
		t.Fatalf("texts that are told are %q when those handed in change; they were %q", got, want)
	}
}

func TestTheSameAgain(t *testing.T) {
	m := newMaker(13)
	for range 20 {
		a, b := m.set(300, 200), m.set(300, 200)
		want := told(a, b)
		for range 20 {
			if got := told(slices.Clone(a), slices.Clone(b)); !same(got, want) {
				t.Fatalf("the same calls tell %q, then %q", want, got)
			}
		}
	}
}

func TestNilAndEmptyRowsAreTheSame(t *testing.T) {
	a := []string{"a", "b"}
	if !same(told(a, nil), told(a, []string{})) || !same(told(nil, a), told([]string{}, a)) || !same(told(nil, nil), told([]string{}, []string{})) {
		t.Fatal("nil and empty rows are not told alike")
	}
}

// Great sets take no time that grows with the square of their members, nor with the members of a great one times many small ones.
func TestGreatSets(t *testing.T) {
	const n = api.MaxLen
	s := great(2 * n)
	var odd, even, back []string
	for i, x := range s {
		if i%2 == 0 {
			even = append(even, x)
		} else {
			odd = append(odd, x)
		}
		back = append(back, s[len(s)-1-i])
	}
	checkRow(t, "Of", "a great row that falls", members.Of(append(back, back...)...), api.OK, s)
	l, count, e := members.Add(odd, append(even, even...)...)
	checkRow(t, "Add", "great rows", l, e, s)
	check(t, "how many Add added", count, n)
	l, count, e = members.Del(s, append(odd, odd...)...)
	checkRow(t, "Del", "great rows", l, e, even)
	check(t, "how many Del took", count, n)
	small := [][]string{s}
	for i := range n {
		small = append(small, even[i:i+1])
	}
	l, e = members.Union(small...)
	checkRow(t, "Union", "a great set and many small ones", l, e, s)
	l, e = members.Less(small...)
	checkRow(t, "Less", "a great set and many small ones", l, e, odd)
	l, e = members.Meet(small...)
	checkRow(t, "Meet", "a great set and many small ones", l, e, nil)
	l, e = members.Meet(s, odd, s, odd, s)
	checkRow(t, "Meet", "great sets", l, e, odd)
	checkSome(t, s, api.MaxKeys, 7)
}
