package space_test

import (
	"fmt"
	"math"
	"slices"
	"strings"
	"testing"

	"millpond/api"
	"millpond/image"
	"millpond/space"
)

var (
	most = strings.Repeat("x", api.MaxBulk)
	over = most + "x"
)

// others are Roles that are none of api's.
var others = []api.Role{0, 4, 5, -1, 257, math.MaxInt, math.MinInt}

// unlike are Roles for which no clock counts.
var unlike = append([]api.Role{api.RoleStream}, others...)

// The example

func TestTheExample(t *testing.T) {
	s := load(t, ends("k", str("v"), 5))
	for _, c := range []struct {
		call api.Call
		seen bool
		told [][]string
		n    int
	}{
		{by(api.RolePrimary, 4, 0), true, nil, 1},
		{by(api.RoleReader, 5, 0), false, nil, 1},
		{by(api.RoleStream, 5, 0), true, nil, 1},
		{by(api.RolePrimary, 5, 0), false, dels("k"), 0},
	} {
		v, seen, told := s.Get(c.call, "k")
		if seen != c.seen || (v.S == "v") != seen || !sameTold(told, c.told) || s.Len() != c.n {
			t.Errorf("Get by %v = %v, %t, %q; Len = %d", c.call, v, seen, told, s.Len())
		}
	}
}

// P10.1: New, Load, Image, Len

func TestNew(t *testing.T) {
	a, b := space.New(), space.New()
	holds(t, "New", a)
	if e := a.Put("k", str("v"), api.Never); e != api.OK {
		t.Fatalf("Put = %v", e)
	}
	holds(t, "Put", a, stay("k", str("v")))
	holds(t, "Put on another space", b)
}

func TestLoad(t *testing.T) {
	all := row(stay("", str("")), ends("\x00", str(most), 0), stay("Z", list("b", "a", "b")), ends("a", set("", "a", "b"), 1), stay("aa", zset(sc("b", math.MinInt64), sc("a", 3))), ends("b", hash(fi("", "v"), fi("f", "")), api.MaxTime), stay("\xff", str("\xff\x00")), stay(most, str("")))
	for _, l := range [][]api.Entry{nil, {}, all[:1], all[1:2], all[2:5], all[:7], append(all[:6:6], all[7])} {
		slices.SortFunc(l, func(a, b api.Entry) int { return strings.Compare(a.Key, b.Key) })
		s := load(t, l...)
		holds(t, "Load", s, l...)
		for _, e := range l {
			if got, ok := s.Look(e.Key); !ok || !image.Same(row(got), row(e)) {
				t.Errorf("Look of %.20q = %s, %t", e.Key, short(got), ok)
			}
		}
	}
}

func TestLoadOfNoImage(t *testing.T) {
	a, b := stay("a", str("")), stay("b", str(""))
	many := numbered(api.MaxKeys+1, never)
	twice := slices.Clone(many)
	twice[7] = twice[6]
	nothing := slices.Clone(many)
	nothing[0] = entry{}
	for _, c := range []struct {
		name string
		l    []api.Entry
		want api.Errno
	}{
		{"an entry that is nothing", row(entry{}), api.ErrImage},
		{"keys that fall", row(b, a), api.ErrImage},
		{"a key twice", row(a, a, b), api.ErrImage},
		{"a set that falls", row(a, stay("b", set("b", "a"))), api.ErrImage},
		{"a list of none", row(stay("a", list()), b), api.ErrImage},
		{"a time below Never", row(a, ends("b", str(""), -2)), api.ErrImage},
		{"a time too late", row(a, ends("b", str(""), api.MaxTime+1)), api.ErrImage},
		{"too long a key", row(a, stay(over, str(""))), api.ErrImage},
		{"too long a string", row(a, stay("b", str(over))), api.ErrImage},
		{"as many as may be, with a key twice", twice[:api.MaxKeys], api.ErrImage},
		{"too many", many, api.ErrMany},
		{"too many, with a key twice", twice, api.ErrMany},
		{"too many, with an entry that is nothing", nothing, api.ErrMany},
	} {
		if s, e := space.Load(c.l); s != nil || e != c.want {
			t.Errorf("Load of %s = %v, %v; want %v", c.name, s != nil, e, c.want)
		}
	}
}

func TestLoadOfAsManyAsMayBe(t *testing.T) {
	l := numbered(api.MaxKeys, func(i int) int { return i%3 - 1 })
	holds(t, "Load", load(t, l...), l...)
}

// Image tells by key, in whatever order the keys came.
func TestImage(t *testing.T) {
	keys := []string{"b", "", "a\x00", "\xff", "aa", "a", "B", "10", "9", "ab", "é"}
	want := []string{"", "10", "9", "B", "a", "a\x00", "aa", "ab", "b", "é", "\xff"}
	s := space.New()
	for i, key := range keys {
		if e := s.Put(key, str(key), i-1); e != api.OK {
			t.Fatalf("Put of %q = %v", key, e)
		}
		if s.Len() != i+1 {
			t.Fatalf("Len behind %d Puts = %d", i+1, s.Len())
		}
	}
	for i, e := range s.Image() {
		if at := slices.Index(keys, e.Key) - 1; e.Key != want[i] || e.V.S != e.Key || e.At != at {
			t.Errorf("Image has %v at %d; want %q, that ends at %d", e, i, want[i], at)
		}
	}
	if e := image.Check(s.Image()); e != api.OK || s.Len() != len(want) {
		t.Errorf("Image is none: %v", e)
	}
}

// P10.2: Get

func TestGet(t *testing.T) {
	v := zset(sc("b", -1), sc("a", 3))
	for _, role := range append(unlike, api.RolePrimary, api.RoleReader) {
		for _, at := range []int{api.Never, 0, 1, 5, 1 << 40} {
			for _, now := range []int{math.MinInt, -2, -1, 0, 1, 4, 5, 6, 1<<40 - 1, 1 << 40, math.MaxInt} {
				l := row(ends("a", str(""), 0), ends("k", v, at), stay("l", str("")))
				s := load(t, l...)
				got, seen, told := s.Get(by(role, now, 7), "k")
				isOver := at != -1 && at <= now
				hidden := isOver && (role == 1 || role == 2)
				want, wantTold := v, [][]string(nil)
				if hidden {
					want = api.Value{}
				}
				if hidden && role == 1 {
					wantTold = dels("k")
					l = slices.Delete(l, 1, 2)
				}
				if !image.SameValue(got, want) || seen == hidden || !sameTold(told, wantTold) {
					t.Errorf("Get by role %d at %d of what ends at %d = %v, %t, %q", role, now, at, got, seen, told)
				}
				holds(t, "Get", s, l...)
			}
		}
	}
}

func TestGetOfWhatIsNotThere(t *testing.T) {
	l := row(ends("k", str("v"), 3), stay("l", str("w")))
	for _, role := range append(unlike, api.RolePrimary, api.RoleReader) {
		for _, key := range []string{"", "K", "kk", "k\x00", "m", over} {
			s := load(t, l...)
			if v, seen, told := s.Get(by(role, 9, 0), key); seen || len(told) > 0 || !image.SameValue(v, api.Value{}) {
				t.Errorf("Get by role %d of %.9q = %v, %t, %q", role, key, v, seen, told)
			}
			holds(t, "Get", s, l...)
			if v, seen, told := space.New().Get(by(role, 9, 0), key); seen || len(told) > 0 || !image.SameValue(v, api.Value{}) {
				t.Errorf("Get by role %d of %.9q, of no keys, = %v, %t, %q", role, key, v, seen, told)
			}
		}
	}
}

// A key that was taken out is not told again, and may be put again.
func TestGetAgain(t *testing.T) {
	s := load(t, ends("k", str("v"), 5))
	c := by(api.RolePrimary, 5, 0)
	if _, seen, told := s.Get(c, "k"); seen || !sameTold(told, dels("k")) {
		t.Errorf("Get = %t, %q", seen, told)
	}
	if _, seen, told := s.Get(c, "k"); seen || len(told) > 0 {
		t.Errorf("Get again = %t, %q", seen, told)
	}
	if e := s.Put("k", list("w"), 6); e != api.OK {
		t.Errorf("Put = %v", e)
	}
	if v, seen, told := s.Get(c, "k"); !seen || len(told) > 0 || !image.SameValue(v, list("w")) {
		t.Errorf("Get of what was put = %v, %t, %q", v, seen, told)
	}
}

// What a call has beside its role and its time plays no part.
func TestGetByTheRestOfACall(t *testing.T) {
	for _, draw := range []uint64{0, 1, math.MaxUint64} {
		for _, args := range [][]string{nil, {"GET", "l"}, {""}} {
			s := load(t, ends("k", str("v"), 5))
			v, seen, told := s.Get(api.Call{Now: 4, Draw: draw, Role: api.RolePrimary, Args: args}, "k")
			if v.S != "v" || !seen || len(told) > 0 {
				t.Errorf("Get by draw %d and %q = %v, %t, %q", draw, args, v, seen, told)
			}
		}
	}
}

// P10.2: Look

func TestLook(t *testing.T) {
	l := row(ends("a", list("b", "a"), 0), ends("b", set("a"), 7), ends("c", hash(fi("f", "v")), api.MaxTime), stay("d", zset(sc("m", 2))))
	s := load(t, l...)
	for _, e := range l { // as it stands, whatever the time is
		if got, ok := s.Look(e.Key); !ok || !image.Same(row(got), row(e)) {
			t.Errorf("Look of %q = %v, %t", e.Key, got, ok)
		}
	}
	for _, key := range []string{"", "A", "aa", "e", over} {
		if got, ok := s.Look(key); ok || !image.Same(row(got), row(entry{})) {
			t.Errorf("Look of %.9q = %v, %t; want nothing", key, got, ok)
		}
	}
	holds(t, "Look", s, l...)
	if got, ok := space.New().Look(""); ok || !image.Same(row(got), row(entry{})) {
		t.Errorf("Look of no keys = %v, %t", got, ok)
	}
}

// P10.2: Keys

func TestKeys(t *testing.T) {
	l := row(ends("", str(""), 5), ends("B", str(""), 4), stay("a", str("")), ends("b", str(""), 6), ends("c", str(""), 0), ends("\xff", str(""), 5))
	every := []string{"", "B", "a", "b", "c", "\xff"}
	for _, c := range []struct {
		now  int
		want []string
	}{
		{-1, every},
		{0, []string{"", "B", "a", "b", "\xff"}},
		{3, []string{"", "B", "a", "b", "\xff"}},
		{4, []string{"", "a", "b", "\xff"}},
		{5, []string{"a", "b"}},
		{6, []string{"a"}},
		{math.MaxInt, []string{"a"}},
		{math.MinInt, every},
	} {
		s := load(t, l...)
		for _, role := range []api.Role{api.RolePrimary, api.RoleReader} {
			if got := s.Keys(by(role, c.now, 3)); !slices.Equal(got, c.want) {
				t.Errorf("Keys by role %d at %d = %q; want %q", role, c.now, got, c.want)
			}
		}
		for _, role := range unlike {
			if got := s.Keys(by(role, c.now, 3)); !slices.Equal(got, every) {
				t.Errorf("Keys by role %d at %d = %q; want all", role, c.now, got)
			}
		}
		holds(t, "Keys", s, l...)
	}
	if got := space.New().Keys(by(api.RolePrimary, 0, 0)); len(got) > 0 {
		t.Errorf("Keys of none = %q", got)
	}
}

// P10.3: Put

func TestPut(t *testing.T) {
	l := row(ends("a", str("v"), 3), stay("c", list("x")))
	values := []api.Value{str(""), str(most), list("b", "a"), set("a", "b"), zset(sc("b", 1), sc("a", 2)), hash(fi("a", ""), fi("b", ""))}
	for _, key := range []string{"a", "b", "c", "", "\xff", most} {
		for _, v := range values {
			for _, at := range []int{-1, 0, 1, 1 << 40} {
				s, m := load(t, l...), model{slices.Clone(l)}
				if e := s.Put(key, v, at); e != api.OK {
					t.Errorf("Put of %.9q, %s, %d = %v", key, short(v), at, e)
				}
				m.put(ends(key, v, at))
				holds(t, "Put", s, m.l...)
			}
		}
	}
}

func TestPutOfWhatMayNotBe(t *testing.T) {
	l := row(ends("a", str("v"), 3), stay("c", list("x")))
	for _, e := range []api.Entry{
		stay("", api.Value{}),
		stay("", api.Value{Kind: 6}),
		stay("", api.Value{Kind: -1, S: "s"}),
		stay("", api.Value{Kind: api.KString, S: "s", L: []string{"l"}}),
		stay("", str(over)),
		stay("", list()),
		stay("", list(over)),
		stay("", set()),
		stay("", set("b", "a")),
		stay("", set("a", "a")),
		stay("", zset(sc("a", 2), sc("b", 1))),
		stay("", zset(sc("a", 1), sc("b", 2), sc("a", 3))),
		stay("", hash(fi("b", ""), fi("a", ""))),
		ends("", str(""), -2),
		ends("", str(""), 1<<40+1),
		ends("", str(""), math.MaxInt),
		ends("", str(""), math.MinInt),
	} {
		for _, key := range []string{"a", "b", "c"} {
			s := load(t, l...)
			if wrong := s.Put(key, e.V, e.At); wrong != api.ErrImage {
				t.Errorf("Put of %q, %s, %d = %v", key, short(e.V), e.At, wrong)
			}
			holds(t, "Put", s, l...)
		}
	}
	s := load(t, l...)
	if wrong := s.Put(over, str(""), api.Never); wrong != api.ErrImage {
		t.Errorf("Put of a key of %d bytes = %v", len(over), wrong)
	}
	holds(t, "Put", s, l...)
}

func TestPutAtTheLimit(t *testing.T) {
	l := numbered(api.MaxKeys, func(i int) int { return i%2 - 1 })
	s := load(t, l[:api.MaxKeys-1]...)
	last := l[api.MaxKeys-1]
	if e := s.Put(last.Key, last.V, last.At); e != api.OK {
		t.Fatalf("Put of the last key = %v", e)
	}
	holds(t, "Put", s, l...)
	for _, c := range []struct {
		key  string
		v    api.Value
		at   int
		want api.Errno
	}{
		{"new", str("v"), -1, api.ErrMany},
		{"new", str("v"), 0, api.ErrMany},
		{"", str(""), 1 << 40, api.ErrMany},
		{most, str(""), 1, api.ErrMany},
		{"new", list(), -1, api.ErrImage},
		{"new", str(over), -1, api.ErrImage},
		{"new", str(""), -2, api.ErrImage},
		{over, str(""), -1, api.ErrImage},
		{l[3].Key, list(), -1, api.ErrImage},
		{l[3].Key, str(""), 1<<40 + 1, api.ErrImage},
	} {
		if e := s.Put(c.key, c.v, c.at); e != c.want {
			t.Errorf("Put of %.9q, %s, %d = %v; want %v", c.key, short(c.v), c.at, e, c.want)
		}
	}
	holds(t, "Puts with errors", s, l...)
	for _, i := range []int{0, 77, api.MaxKeys - 1} {
		l[i] = ends(l[i].Key, list("new"), 9)
		if e := s.Put(l[i].Key, l[i].V, 9); e != api.OK {
			t.Errorf("Put of a key that is there = %v", e)
		}
	}
	holds(t, "Puts of keys that are there", s, l...)
	if !s.Del(l[0].Key) || s.Put("new", str(""), -1) != api.OK || s.Put(l[0].Key, str(""), -1) != api.ErrMany {
		t.Error("where one was taken out, just one may be put")
	}
}

// P10.3: End

func TestEnd(t *testing.T) {
	l := row(ends("a", set("x"), 3), stay("b", list("x", "x")), ends("c", str("v"), 1<<40))
	for at, may := range map[int]bool{-1: true, 0: true, 1: true, 3: true, 1<<40 - 1: true, 1 << 40: true, -2: false, 1<<40 + 1: false, math.MaxInt: false, math.MinInt: false} {
		for i, e := range l {
			s, want := load(t, l...), slices.Clone(l)
			if got := s.End(e.Key, at); got != may {
				t.Errorf("End of %q at %d = %t", e.Key, at, got)
			}
			if may {
				want[i].At = at
			}
			holds(t, "End", s, want...)
		}
		for _, key := range []string{"", "A", "d", over} {
			s := load(t, l...)
			if s.End(key, at) || space.New().End(key, at) {
				t.Errorf("End of %.9q at %d = true; it is not there", key, at)
			}
			holds(t, "End", s, l...)
		}
	}
}

// An end counts at once, and no clock ahead of it.
func TestEndOfWhatIsOver(t *testing.T) {
	s := load(t, ends("k", str("v"), 3))
	c := by(api.RolePrimary, 5, 0)
	if !s.End("k", 6) || s.Over(5) != 0 {
		t.Error("what is over has no later end")
	}
	if v, seen, told := s.Get(c, "k"); !seen || v.S != "v" || len(told) > 0 {
		t.Errorf("Get ahead of the end = %v, %t, %q", v, seen, told)
	}
	if !s.End("k", 5) || s.Over(5) != 1 {
		t.Error("what is there has no earlier end")
	}
	if _, seen, told := s.Get(c, "k"); seen || !sameTold(told, dels("k")) {
		t.Errorf("Get at the end = %t, %q", seen, told)
	}
	if s.End("k", 6) {
		t.Error("what was taken out has an end")
	}
}

// P10.3: Del, Clear

func TestDel(t *testing.T) {
	l := row(ends("a", set("x"), 0), stay("b", list("x", "x")), ends("c", str("v"), 1<<40))
	for i, e := range l { // over or not: no clock counts
		s := load(t, l...)
		rest := slices.Delete(slices.Clone(l), i, i+1)
		if !s.Del(e.Key) {
			t.Errorf("Del of %q = false", e.Key)
		}
		holds(t, "Del", s, rest...)
		if s.Del(e.Key) {
			t.Errorf("Del of %q again = true", e.Key)
		}
		holds(t, "Del again", s, rest...)
	}
	for _, key := range []string{"", "A", "d", over} {
		s := load(t, l...)
		if s.Del(key) || space.New().Del(key) {
			t.Errorf("Del of %.9q = true; it is not there", key)
		}
		holds(t, "Del", s, l...)
	}
}

func TestClear(t *testing.T) {
	for _, n := range []int{0, 1, 2, 3, 100, api.MaxKeys} {
		s := load(t, numbered(n, func(i int) int { return i%4 - 1 })...)
		if got := s.Clear(); got != n {
			t.Errorf("Clear of %d = %d", n, got)
		}
		holds(t, "Clear", s)
		if got := s.Clear(); got != 0 {
			t.Errorf("Clear of none = %d", got)
		}
		if _, there := s.Look("000000"); there || s.Over(9) != 0 || len(s.Keys(by(0, 0, 0))) > 0 {
			t.Error("behind Clear there is something")
		}
		if e := s.Put("k", str("v"), 3); e != api.OK {
			t.Errorf("Put behind Clear = %v", e)
		}
		holds(t, "Clear and Put", s, ends("k", str("v"), 3))
	}
}

// P10.4: Pick

func TestPickOfNone(t *testing.T) {
	for _, role := range append(unlike, api.RolePrimary, api.RoleReader) {
		for _, draw := range []uint64{0, 1, math.MaxUint64} {
			if key, seen, told := space.New().Pick(by(role, 5, draw)); key != "" || seen || len(told) > 0 {
				t.Errorf("Pick of none by role %d, draw %d = %q, %t, %q", role, draw, key, seen, told)
			}
		}
	}
}

// draws are below, at and beyond 5, up to the greatest of 64 bits.
var draws = []uint64{0, 1, 2, 3, 4, 5, 6, 9, 10, 11, 1<<32 - 1, 1 << 32, 1<<63 - 1, 1 << 63, 1<<63 + 1, math.MaxUint64 - 1, math.MaxUint64}

// Of five keys of which none is over, the one at the place of the draw, rising, by each role.
func TestPick(t *testing.T) {
	keys := []string{"", "B", "a", "b", "\xff"}
	s := space.New()
	for _, i := range []int{3, 0, 4, 2, 1} {
		s.Put(keys[i], str("v"), 2*i+5)
	}
	l := s.Image()
	for _, role := range append(unlike, api.RolePrimary, api.RoleReader) {
		for _, draw := range draws {
			key, seen, told := s.Pick(by(role, 4, draw))
			if key != keys[draw%5] || !seen || len(told) > 0 {
				t.Errorf("Pick by role %d, draw %d = %q, %t, %q", role, draw, key, seen, told)
			}
		}
	}
	for _, role := range unlike { // over or not
		for _, draw := range draws {
			key, seen, told := s.Pick(by(role, 1<<40, draw))
			if key != keys[draw%5] || !seen || len(told) > 0 {
				t.Errorf("Pick by role %d, draw %d, of keys that are over = %q, %t, %q", role, draw, key, seen, told)
			}
		}
	}
	holds(t, "Pick", s, l...)
}

// By a primary's call each entry that is met and over goes, and the next draw picks among those that are left.
func TestPickByAPrimary(t *testing.T) {
	// Draw 1; then 7806831264735756412; then 9396908728118811419.
	for _, c := range []struct {
		name string
		l    []api.Entry
		draw uint64
		key  string
		told [][]string
		rest []api.Entry
	}{
		{"the one that is met is seen", row(ends("a", str(""), 5), stay("b", str("")), ends("c", str(""), 5)), 1, "b", nil,
			row(ends("a", str(""), 5), stay("b", str("")), ends("c", str(""), 5))},
		{"the one that is met is over", row(stay("a", str("")), ends("b", str(""), 5), stay("c", str(""))), 1, "a", dels("b"),
			row(stay("a", str("")), stay("c", str("")))},
		{"two that are met are over, another one isn't met", row(ends("a", str(""), 3), ends("b", str(""), 4), ends("c", str(""), 5), ends("d", str(""), 6)), 1, "d", dels("b", "c"),
			row(ends("a", str(""), 3), ends("d", str(""), 6))},
		{"all are over", row(ends("a", str(""), 5), ends("b", str(""), 4), ends("c", str(""), 5)), 1, "", dels("b", "a", "c"), nil},
		{"one alone is over", row(ends("a", str(""), 5)), 1, "", dels("a"), nil},
		{"one alone ends later", row(ends("a", str(""), 6)), 1, "a", nil, row(ends("a", str(""), 6))},
	} {
		s := load(t, c.l...)
		key, seen, told := s.Pick(by(api.RolePrimary, 5, c.draw))
		if key != c.key || seen != (c.key != "") || !sameTold(told, c.told) {
			t.Errorf("Pick, where %s, = %q, %t, %q; want %q, %q", c.name, key, seen, told, c.key, c.told)
		}
		holds(t, c.name, s, c.rest...)
	}
}

// By a replica's call the one behind it that is seen, going round; nothing goes.
func TestPickByAReader(t *testing.T) {
	keys := []string{"a", "b", "c", "d", "e"}
	for some := range 1 << len(keys) { // each set of keys that are over
		var l []api.Entry
		for i, key := range keys {
			l = append(l, ends(key, str(""), 6-some>>i&1))
		}
		s := load(t, l...)
		for _, draw := range draws {
			want, at := "", int(draw%5)
			for i := range 5 {
				if at := (at + i) % 5; want == "" && some>>at&1 == 0 {
					want = keys[at]
				}
			}
			key, seen, told := s.Pick(by(api.RoleReader, 5, draw))
			if key != want || seen != (want != "") || len(told) > 0 {
				t.Errorf("Pick, draw %d, of %b over = %q, %t, %q; want %q", draw, some, key, seen, told, want)
			}
		}
		holds(t, "Pick", s, l...)
	}
}

// By each role, of each set of keys that are over, with each of many draws, just what the model does.
func TestPickOfSomeOver(t *testing.T) {
	for some := range 1 << 5 {
		l := numbered(5, func(i int) int { return 6 - some>>i&1 })
		for _, role := range []api.Role{0, 1, 2, 3, 4} {
			for _, draw := range draws {
				newTrio(t, l...).do(t, step{name: "Pick", c: by(role, 5, draw)})
			}
		}
	}
	m := newMaker(3)
	for n := range 9 {
		for range 100 {
			l := numbered(n, func(int) int { return pickOf(m, -1, 4, 5, 5, 5, 6) })
			for _, role := range []api.Role{0, 1, 1, 2, 3} {
				newTrio(t, l...).do(t, step{name: "Pick", c: by(role, 5, m.Uint64()>>m.IntN(64))})
			}
		}
	}
}

func TestPickOfAsManyAsMayBe(t *testing.T) {
	const one, first = 54321, 17 // the one that is not over, the first draw
	l := numbered(api.MaxKeys, func(int) int { return 5 })
	l[one].At = 6
	left := make([]int, len(l))
	for i := range left {
		left[i] = i
	}
	var want [][]string
	for draw := uint64(first); ; draw = modelNext(draw) {
		at := int(draw % uint64(len(left)))
		if left[at] == one {
			break
		}
		want = append(want, []string{"DEL", l[left[at]].Key})
		left = slices.Delete(left, at, at+1)
	}
	var rest []api.Entry
	for _, i := range left {
		rest = append(rest, l[i])
	}
	s, c := load(t, l...), by(api.RolePrimary, 5, first)
	if key, seen, told := s.Pick(c); key != l[one].Key || !seen || !sameTold(told, want) {
		t.Errorf("Pick = %q, %t, %d told: %s; want %q, %d told: %s", key, seen, len(told), short(told), l[one].Key, len(want), short(want))
	}
	holds(t, "Pick", s, rest...)
	s.End(l[one].Key, 5)
	if key, seen, told := s.Pick(c); key != "" || seen || len(told) != len(rest) {
		t.Errorf("Pick of keys that are all over = %q, %t, %d told; want %d told", key, seen, len(told), len(rest))
	}
	holds(t, "Pick", s)
}

// P10.5: Over, Expire

func TestOver(t *testing.T) {
	l := row(ends("a", str(""), 5), stay("b", str("")), ends("c", str(""), 0), ends("d", str(""), 5), ends("e", str(""), 1<<40), ends("f", str(""), 6))
	s := load(t, l...)
	for now, want := range map[int]int{math.MinInt: 0, -2: 0, -1: 0, 0: 1, 1: 1, 4: 1, 5: 3, 6: 4, 7: 4, 1<<40 - 1: 4, 1 << 40: 5, math.MaxInt: 5} {
		if got := s.Over(now); got != want {
			t.Errorf("Over at %d = %d; want %d", now, got, want)
		}
	}
	holds(t, "Over", s, l...)
	if got := space.New().Over(9); got != 0 {
		t.Errorf("Over of none = %d", got)
	}
}

func TestExpire(t *testing.T) {
	l := row(ends("a", str(""), 5), stay("b", str("")), ends("c", str(""), 4), ends("d", str(""), 5), ends("e", str(""), 6), ends("f", str(""), 4), ends("g", str(""), 0), ends("h", str(""), 1<<40))
	ends := []struct {
		now  int
		keys string
	}{
		{math.MinInt, ""}, {-2, ""}, {-1, ""}, {0, "g"}, {3, "g"}, {4, "gcf"}, {5, "gcfad"}, {6, "gcfade"}, {7, "gcfade"}, {1<<40 - 1, "gcfade"}, {1 << 40, "gcfadeh"}, {math.MaxInt, "gcfadeh"},
	}
	for _, c := range ends {
		n := len(c.keys)
		for _, most := range []int{math.MinInt, -2, -1, 0, 1, 2, 3, n - 1, n, n + 1, 8, 1000, math.MaxInt} {
			s, m := load(t, l...), model{slices.Clone(l)}
			keys := strings.Split(c.keys, "")[:min(n, max(most, 0))]
			if told := s.Expire(c.now, most); !sameTold(told, dels(keys...)) {
				t.Errorf("Expire at %d, at most %d, tells %q; want %q", c.now, most, told, keys)
			}
			for _, key := range keys {
				m.del(key)
			}
			holds(t, fmt.Sprint("Expire at ", c.now, " of ", most), s, m.l...)
			if got, want := s.Over(c.now), n-len(keys); got != want {
				t.Errorf("Over at %d behind Expire of %d = %d; want %d", c.now, most, got, want)
			}
		}
	}
	if told := space.New().Expire(9, 9); len(told) > 0 {
		t.Errorf("Expire of none tells %q", told)
	}
}

// Of alike ends by key, byte by byte.
func TestExpireOfAlikeEnds(t *testing.T) {
	l := row(ends("", str(""), 1), ends("10", str(""), 1), ends("9", str(""), 1), ends("B", str(""), 1), ends("a", str(""), 1), ends("a\x00", str(""), 1), ends("é", str(""), 1), ends("\xff", str(""), 1))
	for most := range len(l) + 2 {
		s, gone := load(t, l...), min(most, len(l))
		var keys []string
		for _, e := range l[:gone] {
			keys = append(keys, e.Key)
		}
		if told := s.Expire(1, most); !sameTold(told, dels(keys...)) {
			t.Errorf("Expire of %d tells %q; want %q", most, told, keys)
		}
		holds(t, "Expire", s, l[gone:]...)
	}
}

func TestExpireOfAsManyAsMayBe(t *testing.T) {
	n := api.MaxKeys
	s := load(t, numbered(n, func(i int) int { return (i*7919 + 5) % 1000 })...)
	var got []string
	for _, most := range []int{1, 999, 30000, n} {
		for _, command := range s.Expire(998, most) {
			got = append(got, command[1])
		}
	}
	var want []string
	for at := range 999 {
		for i := range n {
			if (i*7919+5)%1000 == at {
				want = append(want, fmt.Sprintf("%06d", i))
			}
		}
	}
	if !slices.Equal(got, want) || s.Len() != n-len(want) || s.Over(998) != 0 {
		t.Errorf("Expire takes out %d, %s ..; want %d, %s ..; %d are left", len(got), short(got), len(want), short(want), s.Len())
	}
}
