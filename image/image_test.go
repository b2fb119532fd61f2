package image_test

import (
	"math"
	"slices"
	"strings"
	"testing"

	"millpond/api"
	"millpond/image"
)

var (
	most = strings.Repeat("x", api.MaxBulk)
	over = most + "x"
)

// P9.1: Value

func TestValue(t *testing.T) {
	for _, c := range []struct {
		name string
		v    api.Value
		want api.Errno
	}{
		{"nothing", api.Value{}, api.ErrImage},
		{"an empty string", str(""), api.OK},
		{"a string", str("\x00\xff\n "), api.OK},
		{"the longest string", str(most), api.OK},
		{"too long a string", str(over), api.ErrImage},

		{"a list of none", list(), api.ErrImage},
		{"an empty list", list([]string{}...), api.ErrImage},
		{"a list of one", list(""), api.OK},
		{"a list that falls, with items that come twice", list("b", "a", "b", "b"), api.OK},
		{"a list of the longest items", list(most, "a", most), api.OK},
		{"a list whose first item is too long", list(over, "a"), api.ErrImage},
		{"a list whose last item is too long", list("a", over), api.ErrImage},
		{"the longest list", list(great(api.MaxLen)...), api.OK},
		{"too long a list", list(great(api.MaxLen + 1)...), api.ErrImage},

		{"a set of none", set(), api.ErrImage},
		{"a set of one", set("a"), api.OK},
		{"a set of the empty text", set(""), api.OK},
		{"a set", set("", "\x00", "A", "a", "aa", "b", "\x7f", "\x80", "\xff"), api.OK},
		{"a set that falls", set("b", "a"), api.ErrImage},
		{"a set that falls at its end", set("a", "c", "b"), api.ErrImage},
		{"a set that falls at its beginning", set("b", "a", "c"), api.ErrImage},
		{"a set with a member twice", set("a", "a"), api.ErrImage},
		{"a set with a member twice, apart", set("a", "b", "a"), api.ErrImage},
		{"a set with its last member twice", set("a", "b", "b"), api.ErrImage},
		{"a set with the empty text twice", set("", ""), api.ErrImage},
		{"a set in the order of signed bytes", set("\x80", "a"), api.ErrImage},
		{"a set in the order of numbers", set("9", "10"), api.ErrImage},
		{"a set with the longest members", set("a", most), api.OK},
		{"a set with too long a member", set("a", over), api.ErrImage},
		{"a set of too long a member", set(over), api.ErrImage},
		{"the greatest set", set(great(api.MaxLen)...), api.OK},
		{"too great a set", set(great(api.MaxLen + 1)...), api.ErrImage},

		{"a zset of none", zset(), api.ErrImage},
		{"a zset of one", zset(sc("", 0)), api.OK},
		{"a zset by scores", zset(sc("c", math.MinInt64), sc("b", -1), sc("a", 0), sc("z", 1), sc("y", math.MaxInt64)), api.OK},
		{"a zset by scores, of alike ones by members", zset(sc("b", 1), sc("c", 1), sc("a", 2), sc("d", 2)), api.OK},
		{"a zset that falls", zset(sc("a", 2), sc("b", 1)), api.ErrImage},
		{"a zset that falls at its end", zset(sc("a", 0), sc("b", 2), sc("c", 1)), api.ErrImage},
		{"a zset that falls below 0", zset(sc("a", 0), sc("b", -1)), api.ErrImage},
		{"a zset that falls by members", zset(sc("b", 1), sc("a", 1)), api.ErrImage},
		{"a zset in the order of members alone", zset(sc("a", 3), sc("b", -1)), api.ErrImage},
		{"a zset with a member twice", zset(sc("a", 1), sc("a", 1)), api.ErrImage},
		{"a zset with a member with two scores", zset(sc("a", 1), sc("a", 2)), api.ErrImage},
		{"a zset with a member with two scores, apart", zset(sc("a", 1), sc("b", 2), sc("c", 3), sc("a", 4)), api.ErrImage},
		{"a zset with the empty text twice", zset(sc("", -1), sc("a", 0), sc("", 1)), api.ErrImage},
		{"a zset with the longest members", zset(sc("b", 1), sc(most, 1)), api.OK},
		{"a zset with too long a member", zset(sc("b", 1), sc(over, 1)), api.ErrImage},
		{"a zset of too long a member", zset(sc(over, 1)), api.ErrImage},
		{"the greatest zset", greatZset(api.MaxLen), api.OK},
		{"too great a zset", greatZset(api.MaxLen + 1), api.ErrImage},

		{"a hash of none", hash(), api.ErrImage},
		{"a hash of one", hash(fi("", "")), api.OK},
		{"a hash", hash(fi("", "z"), fi("B", "a"), fi("a", "a"), fi("aa", ""), fi("\xff", "a")), api.OK},
		{"a hash that falls", hash(fi("b", "1"), fi("a", "2")), api.ErrImage},
		{"a hash that falls at its end", hash(fi("a", "1"), fi("c", "2"), fi("b", "3")), api.ErrImage},
		{"a hash with a field twice", hash(fi("a", "1"), fi("a", "1")), api.ErrImage},
		{"a hash with a field with two values", hash(fi("a", "1"), fi("a", "2")), api.ErrImage},
		{"a hash with a field twice, apart", hash(fi("a", "1"), fi("b", "2"), fi("a", "3")), api.ErrImage},
		{"a hash with the longest fields and values", hash(fi("a", most), fi(most, "b")), api.OK},
		{"a hash with too long a field", hash(fi("a", "1"), fi(over, "b")), api.ErrImage},
		{"a hash with too long a value", hash(fi("a", over), fi("b", "")), api.ErrImage},
		{"the greatest hash", greatHash(api.MaxLen), api.OK},
		{"too great a hash", greatHash(api.MaxLen + 1), api.ErrImage},
	} {
		if e := image.Value(c.v); e != c.want {
			t.Errorf("Value of %s = %v; want %v", c.name, e, c.want)
		}
		if e := image.Check(row(stay("k", c.v))); e != c.want {
			t.Errorf("Check of %s = %v; want %v", c.name, e, c.want)
		}
	}
}

// A value has what its kind names, and nothing else; a kind that is none has nothing that it might name.
func TestValueOfWhatItsKindDoesNotName(t *testing.T) {
	kinds := []api.Kind{math.MinInt, -1, 0, 1, 2, 3, 4, 5, 6, 7, 257, 258, math.MaxInt}
	for _, kind := range kinds {
		for _, s := range []string{"", "s"} {
			for _, l := range [][]string{nil, {}, {"l"}} {
				for _, z := range [][]api.Scored{nil, {}, {{}}, {sc("z", 1)}} {
					for _, h := range [][]api.Field{nil, {}, {{}}, {fi("h", "v")}} {
						v := api.Value{Kind: kind, S: s, L: l, Z: z, H: h}
						want := api.ErrImage
						if modelValue(v) {
							want = api.OK
						}
						if e := image.Value(v); e != want {
							t.Errorf("Value of %#v = %v; want %v", v, e, want)
						}
					}
				}
			}
		}
	}
}

func TestValueOfAllRows(t *testing.T) {
	ask := func(v api.Value) {
		if e := image.Value(v); (e == api.OK) != modelValue(v) || e != api.OK && e != api.ErrImage {
			t.Fatalf("Value of %v = %v", v, e)
		}
	}
	for _, l := range rows(4, "", "\x00", "a", "aa", "b") {
		ask(list(l...))
		ask(set(l...))
	}
	for _, z := range rows(4, sc("", 0), sc("a", 0), sc("a", 1), sc("b", 0), sc("b", -1)) {
		ask(zset(z...))
	}
	for _, h := range rows(4, fi("", "b"), fi("a", "a"), fi("a", ""), fi("b", "")) {
		ask(hash(h...))
	}
}

// A great value that may not be at one place, wherever that is.
func TestValueAtEachPlace(t *testing.T) {
	const n = 2000
	s, z, h := set(great(n)...), greatZset(n), greatHash(n)
	for i := 1; i < n; i++ {
		m, member, field := s.L[i], z.Z[i], h.H[i]
		s.L[i], z.Z[i].M, h.H[i].F = s.L[i-1], z.Z[0].M, h.H[i-1].F
		for _, v := range []api.Value{s, z, h} {
			if e := image.Value(v); e != api.ErrImage {
				t.Fatalf("Value of kind %d with one twice at %d = %v; want ErrImage", v.Kind, i, e)
			}
		}
		s.L[i], z.Z[i], h.H[i] = m, member, field
	}
	for _, v := range []api.Value{s, z, h} {
		if e := image.Value(v); e != api.OK {
			t.Errorf("Value of kind %d = %v; want OK", v.Kind, e)
		}
	}
}

// P9.1: Check

func TestCheck(t *testing.T) {
	a, b, c := stay("a", str("")), stay("b", list("x")), stay("c", zset(sc("m", 1)))
	for _, r := range []struct {
		name string
		l    []api.Entry
		want api.Errno
	}{
		{"nil", nil, api.OK},
		{"no entry", []api.Entry{}, api.OK},
		{"one entry", row(a), api.OK},
		{"three entries", row(a, b, c), api.OK},
		{"the empty key", row(stay("", str("")), a), api.OK},
		{"keys of any bytes", row(stay("\x00", str("")), stay("\n", str("")), stay("Z", str("")), a, stay("aa", str("")), stay("\xff", str(""))), api.OK},
		{"an entry that is nothing", row(entry{}), api.ErrImage},
		{"an entry without a value", row(stay("a", api.Value{})), api.ErrImage},
		{"keys that fall", row(b, a), api.ErrImage},
		{"keys that fall at the end", row(a, c, b), api.ErrImage},
		{"keys that fall at the beginning", row(b, a, c), api.ErrImage},
		{"a key twice", row(a, a), api.ErrImage},
		{"a key twice, with other values", row(a, b, stay("b", str("")), c), api.ErrImage},
		{"a key twice, apart", row(a, b, a), api.ErrImage},
		{"the longest key", row(a, stay(most, str(""))), api.OK},
		{"too long a key", row(a, stay(over, str(""))), api.ErrImage},
		{"a first entry that may not be", row(stay("a", list()), b), api.ErrImage},
		{"a last entry that may not be", row(a, stay("b", set("b", "a"))), api.ErrImage},
		{"a time of -2", row(a, ends("b", str(""), -2)), api.ErrImage},
		{"a time of -1", row(a, ends("b", str(""), -1)), api.OK},
		{"a time of 0", row(ends("a", str(""), 0), b), api.OK},
		{"a time of 1", row(ends("a", str(""), 1), b), api.OK},
		{"the last time", row(ends("a", str(""), api.MaxTime), b), api.OK},
		{"a time beyond it", row(ends("a", str(""), api.MaxTime+1), b), api.ErrImage},
		{"the greatest number for a time", row(ends("a", str(""), math.MaxInt)), api.ErrImage},
		{"the least number for a time", row(ends("a", str(""), math.MinInt)), api.ErrImage},
		{"as many entries as may be", greatImage(api.MaxKeys), api.OK},
		{"as many entries as may be, the last twice", append(greatImage(api.MaxKeys - 1)[:api.MaxKeys-1], greatImage(api.MaxKeys - 1)[api.MaxKeys-2]), api.ErrImage},
		{"more entries than may be", greatImage(api.MaxKeys + 1), api.ErrMany},
		{"more entries than may be, that may not be", make([]api.Entry, api.MaxKeys+1), api.ErrMany},
		{"as many entries as may be, that may not be", make([]api.Entry, api.MaxKeys), api.ErrImage},
	} {
		if e := image.Check(r.l); e != r.want {
			t.Errorf("Check of %s = %v; want %v", r.name, e, r.want)
		}
	}
}

// some are entries that may be, and such as may not.
func some() []api.Entry {
	return row(stay("", str("")), stay("a", str("")), ends("a", list("b", "a"), 5), stay("aa", set("b", "a")), stay("b", hash(fi("f", "v"))), ends("b", str("x"), -2), stay("c", zset(sc("b", 1), sc("a", 0))))
}

func TestCheckOfAllRows(t *testing.T) {
	for _, l := range rows(4, some()...) {
		if e := image.Check(l); e != modelCheck(l) {
			t.Fatalf("Check of %v = %v; want %v", l, e, modelCheck(l))
		}
	}
}

func TestCheckAtEachPlace(t *testing.T) {
	l := greatImage(2000)
	for i := range l {
		was := l[i]
		for _, bad := range row(entry{Key: was.Key}, ends(was.Key, str(""), -2), stay(was.Key[:1], str(""))) {
			l[i] = bad
			want := api.ErrImage
			if i == 0 && modelEntry(bad) {
				want = api.OK
			}
			if e := image.Check(l); e != want {
				t.Fatalf("Check with %v at %d = %v; want %v", bad, i, e, want)
			}
		}
		l[i] = was
	}
	if e := image.Check(l); e != api.OK {
		t.Errorf("Check = %v; want OK", e)
	}
}

// P9.1: SameValue, Same

func TestSameValueAtEachField(t *testing.T) {
	full := func() api.Value { // no value that may be: all fields are asked of any
		return api.Value{Kind: api.KHash, S: "s", L: []string{"k", "l"}, Z: []api.Scored{sc("y", 1), sc("z", 2)}, H: []api.Field{fi("f", "v"), fi("h", "w")}}
	}
	if !image.SameValue(full(), full()) {
		t.Error("a value is not like itself")
	}
	for i, change := range []func(v *api.Value){
		func(v *api.Value) { v.Kind = 0 },
		func(v *api.Value) { v.Kind = api.KZset },
		func(v *api.Value) { v.S = "" },
		func(v *api.Value) { v.S = "S" },
		func(v *api.Value) { v.L = nil },
		func(v *api.Value) { v.L[0] = "K" },
		func(v *api.Value) { v.L[1] = "" },
		func(v *api.Value) { v.L = v.L[:1] },
		func(v *api.Value) { v.L = v.L[1:] },
		func(v *api.Value) { v.L = append(v.L, "") },
		func(v *api.Value) { v.L = []string{"kl"} },
		func(v *api.Value) { slices.Reverse(v.L) },
		func(v *api.Value) { v.Z = nil },
		func(v *api.Value) { v.Z[0].M = "" },
		func(v *api.Value) { v.Z[1].M = "Z" },
		func(v *api.Value) { v.Z[0].N = -1 },
		func(v *api.Value) { v.Z[1].N = 1<<32 + 2 },
		func(v *api.Value) { v.Z = v.Z[:1] },
		func(v *api.Value) { v.Z = append(v.Z, api.Scored{}) },
		func(v *api.Value) { slices.Reverse(v.Z) },
		func(v *api.Value) { v.H = nil },
		func(v *api.Value) { v.H[0].F = "" },
		func(v *api.Value) { v.H[0].V = "" },
		func(v *api.Value) { v.H[1].F = "H" },
		func(v *api.Value) { v.H[1].V = "W" },
		func(v *api.Value) { v.H[0] = fi("v", "f") },
		func(v *api.Value) { v.H = v.H[:1] },
		func(v *api.Value) { v.H = append(v.H, api.Field{}) },
		func(v *api.Value) { slices.Reverse(v.H) },
	} {
		other := full()
		change(&other)
		if image.SameValue(full(), other) || image.SameValue(other, full()) || !image.SameValue(other, other) {
			t.Errorf("SameValue with difference %d: %v", i, other)
		}
		if image.Same(row(stay("a", str("")), stay("k", full())), row(stay("a", str("")), stay("k", other))) {
			t.Errorf("Same with difference %d: %v", i, other)
		}
	}
}

func TestSame(t *testing.T) {
	a, b := ends("a", str("x"), 5), stay("b", list("x"))
	for _, c := range []struct {
		l, other []api.Entry
		want     bool
	}{
		{nil, nil, true}, {nil, []api.Entry{}, true}, {[]api.Entry{}, nil, true}, {[]api.Entry{}, []api.Entry{}, true},
		{nil, row(entry{}), false}, {row(entry{}), nil, false}, {row(entry{}), row(entry{}), true},
		{row(a), row(a), true}, {row(a, b), row(a, b), true}, {row(b, a), row(b, a), true}, {row(a, a), row(a, a), true},
		{row(a), row(b), false}, {row(a, b), row(b, a), false}, {row(a, b), row(a), false}, {row(a), row(a, b), false}, {row(a, b), row(b), false}, {row(a), row(a, a), false},
		{row(a), row(ends("A", str("x"), 5)), false}, {row(a), row(ends("", str("x"), 5)), false},
		{row(a), row(ends("a", str("y"), 5)), false}, {row(a), row(ends("a", list("x"), 5)), false},
		{row(a), row(ends("a", str("x"), 6)), false}, {row(a), row(ends("a", str("x"), api.Never)), false}, {row(a), row(ends("a", str("x"), 1<<32+5)), false},
		{row(b, a), row(b, ends("a", str("x"), 4)), false},
		{row(ends("a", str("x"), -2)), row(ends("a", str("x"), -1)), false},
	} {
		if got := image.Same(c.l, c.other); got != c.want {
			t.Errorf("Same of %v and %v = %t", c.l, c.other, got)
		}
	}
	for _, kind := range []api.Kind{0, 1, 2, 3, 4, 5, 9} {
		bare, empty := api.Value{Kind: kind}, api.Value{Kind: kind, L: []string{}, Z: []api.Scored{}, H: []api.Field{}}
		if !image.SameValue(bare, empty) || !image.SameValue(empty, bare) || !image.Same(row(stay("k", bare)), row(stay("k", empty))) {
			t.Errorf("nil and empty lists of kind %d are not alike", kind)
		}
	}
}

// P9.2: Canon

func TestCanon(t *testing.T) {
	a, b, c := stay("a", str("z")), ends("b", list("b", "a", "b"), 5), stay("c", str(""))
	z := zset(sc("a", 2), sc("b", -1), sc("c", 0), sc("B", 0))
	for _, r := range []struct {
		l, want []api.Entry
		e       api.Errno
	}{
		{},
		{l: []api.Entry{}},
		{l: row(a), want: row(a)},
		{l: row(a, b, c), want: row(a, b, c)},
		{l: row(c, b, a), want: row(a, b, c)},
		{l: row(b, c, a), want: row(a, b, c)},
		{l: row(stay("b", str("")), stay("", str("")), stay("\xff", str("")), stay("B", str(""))), want: row(stay("", str("")), stay("B", str("")), stay("b", str("")), stay("\xff", str("")))},
		{l: row(stay("k", list("c", "a", "b", "a"))), want: row(stay("k", list("c", "a", "b", "a")))},
		{l: row(stay("k", set("c", "", "b", "a"))), want: row(stay("k", set("", "a", "b", "c")))},
		{l: row(stay("k", z)), want: row(stay("k", zset(sc("b", -1), sc("B", 0), sc("c", 0), sc("a", 2))))},
		{l: row(stay("k", hash(fi("b", "1"), fi("a", "2"), fi("", "3")))), want: row(stay("k", hash(fi("", "3"), fi("a", "2"), fi("b", "1"))))},
		{l: row(stay("k", set("b", "a")), stay("a", set("d", "c"))), want: row(stay("a", set("c", "d")), stay("k", set("a", "b")))},
		{l: row(a, a), e: api.ErrImage},
		{l: row(a, b, stay("a", str("other"))), e: api.ErrImage},
		{l: row(stay("", str("")), b, stay("", str("x"))), e: api.ErrImage},
		{l: row(stay("k", set("b", "a", "b"))), e: api.ErrImage},
		{l: row(stay("k", set("", ""))), e: api.ErrImage},
		{l: row(stay("k", set())), e: api.ErrImage},
		{l: row(stay("k", zset(sc("b", 1), sc("a", 0), sc("b", 1)))), e: api.ErrImage},
		{l: row(stay("k", zset(sc("b", 1), sc("a", 0), sc("b", -1)))), e: api.ErrImage},
		{l: row(stay("k", zset())), e: api.ErrImage},
		{l: row(stay("k", hash(fi("b", "1"), fi("a", "0"), fi("b", "1")))), e: api.ErrImage},
		{l: row(stay("k", hash(fi("b", "1"), fi("a", "0"), fi("b", "2")))), e: api.ErrImage},
		{l: row(stay("k", hash())), e: api.ErrImage},
		{l: row(stay("k", list())), e: api.ErrImage},
		{l: row(c, entry{}, a), e: api.ErrImage},
		{l: row(c, ends("b", str(""), -2), a), e: api.ErrImage},
		{l: row(c, ends("b", str(""), api.MaxTime+1), a), e: api.ErrImage},
		{l: row(c, stay(over, str("")), a), e: api.ErrImage},
		{l: row(c, stay("b", str(over)), a), e: api.ErrImage},
		{l: row(stay("k", set("b", over, "a"))), e: api.ErrImage},
		{l: row(stay("k", zset(sc("b", 1), sc(over, 0)))), e: api.ErrImage},
		{l: row(stay("k", hash(fi("b", over), fi("a", "")))), e: api.ErrImage},
		{l: row(stay("k", api.Value{Kind: api.KSet, S: "s", L: []string{"a"}})), e: api.ErrImage},
		{l: row(stay("k", api.Value{Kind: api.KSet, L: []string{"b", "a"}, H: []api.Field{{}}})), e: api.ErrImage},
		{l: row(stay("k", api.Value{Kind: api.KString, L: []string{"b", "a"}})), e: api.ErrImage},
		{l: row(stay("k", api.Value{Kind: 6, L: []string{"b", "a"}})), e: api.ErrImage},
	} {
		got, e := image.Canon(r.l...)
		checkRow(t, "Canon", r.l, got, e, r.want, r.e)
	}
}

func TestCanonOfAllRows(t *testing.T) {
	for _, l := range rows(4, some()...) {
		got, e := image.Canon(l...)
		want, wantE := modelCanon(l)
		checkRow(t, "Canon", l, got, e, want, wantE)
	}
}

func TestCanonOfAllValues(t *testing.T) {
	ask := func(v api.Value) {
		l := row(stay("k", v))
		got, e := image.Canon(l...)
		want, wantE := modelCanon(l)
		checkRow(t, "Canon", l, got, e, want, wantE)
	}
	for _, l := range rows(4, "", "a", "aa", "b") {
		ask(list(l...))
		ask(set(l...))
	}
	for _, z := range rows(4, sc("", 0), sc("a", 0), sc("a", 1), sc("b", 0), sc("b", -1), sc("c", math.MinInt64), sc("d", math.MaxInt64)) {
		ask(zset(z...))
	}
	for _, h := range rows(4, fi("", "b"), fi("a", "a"), fi("a", ""), fi("b", "")) {
		ask(hash(h...))
	}
}

func TestCanonOfMany(t *testing.T) {
	l := greatImage(api.MaxKeys)
	back := clone(l)
	slices.Reverse(back)
	got, e := image.Canon(back...)
	checkRow(t, "Canon", "as many entries as may be, from behind", got, e, l, api.OK)
	got, e = image.Canon(append(back, stay("x", str("")))...)
	checkRow(t, "Canon", "more than may be", got, e, nil, api.ErrMany)
	got, e = image.Canon(append(back, back[0])...)
	checkRow(t, "Canon", "more than may be, one of them twice", got, e, nil, api.ErrMany)
	got, e = image.Canon(make([]api.Entry, api.MaxKeys+1)...)
	checkRow(t, "Canon", "more than may be, that may not be", got, e, nil, api.ErrMany)
	got, e = image.Canon(make([]api.Entry, api.MaxKeys)...)
	checkRow(t, "Canon", "as many as may be, that may not be", got, e, nil, api.ErrImage)
	for _, n := range []int{api.MaxLen, api.MaxLen + 1} {
		var l, back []api.Entry
		for _, v := range []api.Value{set(great(n)...), greatZset(n), greatHash(n)} {
			l = append(l, stay(string(rune('a'+v.Kind)), v))
		}
		back = clone(l)
		slices.Reverse(back)
		for _, e := range back {
			slices.Reverse(e.V.L)
			slices.Reverse(e.V.Z)
			slices.Reverse(e.V.H)
		}
		got, e := image.Canon(back...)
		if n > api.MaxLen {
			checkRow(t, "Canon", "too great values", got, e, nil, api.ErrImage)
		} else {
			checkRow(t, "Canon", "great values from behind", got, e, l, api.OK)
		}
	}
}

// P9.3: Find, Put, Del, Live

func TestFindAndDelOfAnyRow(t *testing.T) {
	for _, l := range rows(4, some()...) {
		for _, key := range []string{"", "a", "aa", "b", "c", "d", "A", "\x00"} {
			rest, gone := image.Del(l, key)
			want, wantGone := modelDel(l, key)
			if !same(rest, want) || gone != wantGone {
				t.Fatalf("Del of %v, %q = %v, %t; want %v, %t", l, key, rest, gone, want, wantGone)
			}
			var first api.Entry
			for i := range l {
				if e := l[len(l)-1-i]; e.Key == key {
					first = e
				}
			}
			if e, there := image.Find(l, key); !same(row(e), row(first)) || there != wantGone {
				t.Fatalf("Find of %v, %q = %v, %t; want %v, %t", l, key, e, there, first, wantGone)
			}
		}
	}
}

func TestFindAndDelOfMany(t *testing.T) {
	l := greatImage(api.MaxKeys + 5)
	for _, i := range []int{0, 1, 1000, api.MaxKeys, api.MaxKeys + 4} {
		l[i].At = i
		if e, there := image.Find(l, l[i].Key); !same(row(e), row(l[i])) || !there {
			t.Errorf("Find at %d = %v, %t", i, e, there)
		}
		if rest, gone := image.Del(l, l[i].Key); !same(rest, slices.Delete(clone(l), i, i+1)) || !gone {
			t.Errorf("Del at %d leaves %d entries, %t", i, len(rest), gone)
		}
	}
	if rest, gone := image.Del(l, "n"); !same(rest, l) || gone {
		t.Errorf("Del of a key that is not there leaves %d entries, %t", len(rest), gone)
	}
}

func TestPut(t *testing.T) {
	b, d := ends("b", str("x"), 5), stay("d", list("x"))
	l := row(b, d)
	for _, c := range []struct {
		l    []api.Entry
		e    api.Entry
		want []api.Entry
	}{
		{nil, b, row(b)},
		{[]api.Entry{}, b, row(b)},
		{nil, stay("", str("")), row(stay("", str("")))},
		{l, stay("a", str("")), row(stay("a", str("")), b, d)},
		{l, stay("", str("")), row(stay("", str("")), b, d)},
		{l, stay("c", str("")), row(b, stay("c", str("")), d)},
		{l, stay("b\x00", str("")), row(b, stay("b\x00", str("")), d)},
		{l, stay("e", str("")), row(b, d, stay("e", str("")))},
		{l, stay(most, str(most)), row(b, d, stay(most, str(most)))},
		{l, b, l},
		{l, d, l},
		{l, stay("b", set("q")), row(stay("b", set("q")), d)},
		{l, ends("b", str("x"), 6), row(ends("b", str("x"), 6), d)},
		{l, ends("d", zset(sc("m", 1)), api.MaxTime), row(b, ends("d", zset(sc("m", 1)), api.MaxTime))},
		{l, ends("d", hash(fi("f", "v")), 0), row(b, ends("d", hash(fi("f", "v")), 0))},
	} {
		got, e := image.Put(c.l, c.e)
		checkRow(t, "Put", []any{c.l, c.e}, got, e, c.want, api.OK)
	}
	for _, bad := range row(
		entry{}, stay("a", api.Value{}), ends("a", str(""), -2), ends("b", str(""), api.MaxTime+1), stay(over, str("")), stay("a", str(over)),
		stay("b", list()), stay("b", set("b", "a")), stay("b", set("a", "a")), stay("b", zset(sc("a", 1), sc("a", 2))), stay("b", hash(fi("b", ""), fi("a", ""))),
		stay("b", api.Value{Kind: api.KString, L: []string{"a"}}), stay("b", api.Value{Kind: 6}),
	) {
		for _, l := range [][]api.Entry{nil, l} {
			got, e := image.Put(l, bad)
			checkRow(t, "Put", []any{l, bad}, got, e, nil, api.ErrImage)
		}
	}
	for _, l := range [][]api.Entry{row(d, b), row(b, b), row(b, entry{Key: "d"}), row(ends("b", str(""), -2))} {
		for _, e := range row(b, stay("a", str("")), entry{}) {
			got, errno := image.Put(l, e)
			checkRow(t, "Put", []any{l, e}, got, errno, nil, api.ErrImage)
		}
	}
}

func TestPutOfAllRows(t *testing.T) {
	for _, l := range rows(3, some()...) {
		for _, e := range append(some(), stay("\x00", str("")), stay("ab", set("a", "b")), stay("d", zset(sc("a", 0), sc("b", 0)))) {
			got, errno := image.Put(l, e)
			want, wantE := modelPut(l, e)
			checkRow(t, "Put", []any{l, e}, got, errno, want, wantE)
		}
	}
}

// The errors of Put in their order, where there are as many entries as may be, or nearly so.
func TestPutAmongMany(t *testing.T) {
	l := greatImage(api.MaxKeys)
	for _, i := range []int{0, 1, 30000, len(l) - 1} {
		with := clone(l)
		with[i] = ends(l[i].Key, list("b", "a"), 7)
		got, e := image.Put(l, with[i])
		checkRow(t, "Put", i, got, e, with, api.OK)
		bad := with[i]
		bad.At = -2
		got, e = image.Put(l, bad)
		checkRow(t, "Put", bad, got, e, nil, api.ErrImage)
		less := slices.Delete(clone(l), i, i+1)
		got, e = image.Put(less, with[i])
		checkRow(t, "Put", i, got, e, with, api.OK)
	}
	for _, key := range []string{"", "a", l[0].Key + "x", l[30000].Key + "x", "n"} {
		got, e := image.Put(l, stay(key, str("")))
		checkRow(t, "Put", key, got, e, nil, api.ErrMany)
		got, e = image.Put(l, stay(key, str(over))) // ErrImage is named ahead of ErrMany
		checkRow(t, "Put", key, got, e, nil, api.ErrImage)
		got, e = image.Put(append(clone(l), stay("n", str(""))), stay(key, str(over))) // Check's error ahead of both
		checkRow(t, "Put", key, got, e, nil, api.ErrMany)
	}
	none := clone(l)
	none[5].At = -2
	got, e := image.Put(none, stay("n", str("")))
	checkRow(t, "Put", "no image", got, e, nil, api.ErrImage)
	got, e = image.Put(append(l, l[0]), l[0])
	checkRow(t, "Put", "more than may be", got, e, nil, api.ErrMany)
}

func TestLive(t *testing.T) {
	at := func(l ...int) []api.Entry {
		var own []api.Entry
		for i, n := range l {
			own = append(own, ends(great(20)[19-i], list("x"), n))
		}
		return own
	}
	some := func(l []api.Entry, places ...int) []api.Entry {
		var own []api.Entry
		for _, i := range places {
			own = append(own, l[i])
		}
		return own
	}
	l := at(5, -1, 4, 6, 0, 1<<40, -1, 5, -2, 1<<40+1, math.MaxInt, math.MinInt)
	for _, c := range []struct {
		now  int
		want []api.Entry
	}{
		{math.MinInt, some(l, 0, 1, 2, 3, 4, 5, 6, 7, 8, 9, 10)},
		{-3, some(l, 0, 1, 2, 3, 4, 5, 6, 7, 8, 9, 10)},
		{-2, some(l, 0, 1, 2, 3, 4, 5, 6, 7, 9, 10)},
		{-1, some(l, 0, 1, 2, 3, 4, 5, 6, 7, 9, 10)},
		{0, some(l, 0, 1, 2, 3, 5, 6, 7, 9, 10)},
		{3, some(l, 0, 1, 2, 3, 5, 6, 7, 9, 10)},
		{4, some(l, 0, 1, 3, 5, 6, 7, 9, 10)},
		{5, some(l, 1, 3, 5, 6, 9, 10)},
		{6, some(l, 1, 5, 6, 9, 10)},
		{1<<40 - 1, some(l, 1, 5, 6, 9, 10)},
		{1 << 40, some(l, 1, 6, 9, 10)},
		{1<<40 + 1, some(l, 1, 6, 10)},
		{math.MaxInt, some(l, 1, 6)},
	} {
		checkRow(t, "Live", c.now, image.Live(l, c.now), api.OK, c.want, api.OK)
	}
	checkRow(t, "Live", "nothing", image.Live(nil, 5), api.OK, nil, api.OK)
	bad := row(entry{Key: "b", At: 9}, entry{Key: "a", At: 9}, entry{Key: "a", At: 9}, stay("a", set("b", "a")))
	checkRow(t, "Live", "a row that is no image", image.Live(bad, 8), api.OK, bad, api.OK)
}

// What follows

// P9.5: Canon of an image, in any order, is it.
func TestOneForm(t *testing.T) {
	m := newMaker(1)
	for range 3000 {
		l := m.image(t, 8)
		got, e := image.Canon(l...)
		checkRow(t, "Canon", l, got, e, l, api.OK)
		other := m.shuffled(l)
		got, e = image.Canon(other...)
		checkRow(t, "Canon", other, got, e, l, api.OK)
		if !image.Same(got, l) || len(l) > 1 && image.Same(got, slices.Concat(l[1:], l[:1])) {
			t.Fatalf("Same of %v", l)
		}
	}
}

// P9.6: Find of what was Put is it; behind Del there is none.
func TestPutFindAndDel(t *testing.T) {
	m := newMaker(2)
	for range 200 {
		var l []api.Entry
		for range 40 {
			e := m.image(t, 1)[0]
			want, wantE := modelPut(l, e)
			got, errno := image.Put(l, e)
			checkRow(t, "Put", []any{l, e}, got, errno, want, wantE)
			found, there := image.Find(got, e.Key)
			if !there || !same(row(found), row(e)) || image.Check(got) != api.OK {
				t.Fatalf("Find of what was put, %v, = %v, %t", e, found, there)
			}
			l = got
			if m.IntN(3) > 0 {
				continue
			}
			key := l[m.IntN(len(l))].Key
			rest, gone := image.Del(l, key)
			if found, there := image.Find(rest, key); !gone || len(rest) != len(l)-1 || there || !same(row(found), row(entry{})) || image.Check(rest) != api.OK {
				t.Fatalf("behind Del of %q from %v, %t, there is %v, %t", key, l, gone, found, there)
			}
			again, gone := image.Del(rest, key)
			if gone || !same(again, rest) {
				t.Fatalf("Del of %q again = %v, %t", key, again, gone)
			}
			l = rest
		}
	}
}
