package snapshot_test

import (
	"math"
	"strings"
	"testing"

	"millpond/api"
	"millpond/image"
	"millpond/snapshot"
)

// P20.2: Encode, Size

// Bytes that are written out by hand; the sums at their ends were worked out elsewhere.
func TestBytesOfSnapshots(t *testing.T) {
	const none = "\xff\xff\xff\xff\xff\xff\xff\xff"
	for _, c := range []struct {
		name string
		h    api.History
		l    []entry
		want string
	}{
		{"no entries", api.History{ID: 1}, nil,
			"MILLPOND\x01" + "\x01\x00\x00\x00\x00\x00\x00\x00" + "\x00\x00\x00\x00\x00\x00\x00\x00" + "\x00\x00\x00\x00" + "\x10\x70\x2a\x9e"},
		{"no entries, great numbers", api.History{ID: 0xfedcba9876543210, Offset: api.MaxOffset}, row(),
			"MILLPOND\x01" + "\x10\x32\x54\x76\x98\xba\xdc\xfe" + "\x00\x00\x00\x00\x00\x00\x04\x00" + "\x00\x00\x00\x00" + "\xa7\xeb\x7d\xdf"},
		{"a string", api.History{ID: 0x0102030405060708, Offset: 0x010203040506}, row(stay("k", str("v\x00\n\r\x80\xff"))),
			"MILLPOND\x01" + "\x08\x07\x06\x05\x04\x03\x02\x01" + "\x06\x05\x04\x03\x02\x01\x00\x00" + "\x01\x00\x00\x00" +
				"\x01" + none + "\x01\x00\x00\x00k" + "\x06\x00\x00\x00v\x00\n\r\x80\xff" + "\x59\x18\xe8\x3e"},
		{"an empty string, with an empty key", api.History{ID: math.MaxUint64, Offset: 1}, row(ends("", str(""), 0)),
			"MILLPOND\x01" + none + "\x01\x00\x00\x00\x00\x00\x00\x00" + "\x01\x00\x00\x00" +
				"\x01" + "\x00\x00\x00\x00\x00\x00\x00\x00" + "\x00\x00\x00\x00" + "\x00\x00\x00\x00" + "\x50\xdd\x6e\x65"},
		{"a list", api.History{ID: 2, Offset: 3}, row(ends("li", list("b", "", "a", "b"), 1)),
			"MILLPOND\x01" + "\x02\x00\x00\x00\x00\x00\x00\x00" + "\x03\x00\x00\x00\x00\x00\x00\x00" + "\x01\x00\x00\x00" +
				"\x02" + "\x01\x00\x00\x00\x00\x00\x00\x00" + "\x02\x00\x00\x00li" + "\x04\x00\x00\x00" + "\x01\x00\x00\x00b" + "\x00\x00\x00\x00" + "\x01\x00\x00\x00a" + "\x01\x00\x00\x00b" + "\xee\x68\x8f\x6c"},
		{"a set", api.History{ID: 2, Offset: 3}, row(ends("s", set("", "ab", "\xff"), api.MaxTime)),
			"MILLPOND\x01" + "\x02\x00\x00\x00\x00\x00\x00\x00" + "\x03\x00\x00\x00\x00\x00\x00\x00" + "\x01\x00\x00\x00" +
				"\x03" + "\x00\x00\x00\x00\x00\x01\x00\x00" + "\x01\x00\x00\x00s" + "\x03\x00\x00\x00" + "\x00\x00\x00\x00" + "\x02\x00\x00\x00ab" + "\x01\x00\x00\x00\xff" + "\xd7\x4e\x3c\x07"},
		{"a sorted set", api.History{ID: 2, Offset: 3}, row(stay("z", zset(sc("c", math.MinInt64), sc("b", -1), sc("", 0), sc("d", 258), sc("a", math.MaxInt64)))),
			"MILLPOND\x01" + "\x02\x00\x00\x00\x00\x00\x00\x00" + "\x03\x00\x00\x00\x00\x00\x00\x00" + "\x01\x00\x00\x00" +
				"\x04" + none + "\x01\x00\x00\x00z" + "\x05\x00\x00\x00" + "\x01\x00\x00\x00c\x00\x00\x00\x00\x00\x00\x00\x80" + "\x01\x00\x00\x00b" + none +
				"\x00\x00\x00\x00\x00\x00\x00\x00\x00\x00\x00\x00" + "\x01\x00\x00\x00d\x02\x01\x00\x00\x00\x00\x00\x00" + "\x01\x00\x00\x00a\xff\xff\xff\xff\xff\xff\xff\x7f" + "\x18\x55\xdf\x3a"},
		{"a hash", api.History{ID: 2, Offset: 3}, row(ends("h", hash(fi("", "v"), fi("f", ""), fi("g", "\r\n")), 0x0504030201)),
			"MILLPOND\x01" + "\x02\x00\x00\x00\x00\x00\x00\x00" + "\x03\x00\x00\x00\x00\x00\x00\x00" + "\x01\x00\x00\x00" +
				"\x05" + "\x01\x02\x03\x04\x05\x00\x00\x00" + "\x01\x00\x00\x00h" + "\x03\x00\x00\x00" + "\x00\x00\x00\x00" + "\x01\x00\x00\x00v" + "\x01\x00\x00\x00f" + "\x00\x00\x00\x00" + "\x01\x00\x00\x00g" + "\x02\x00\x00\x00\r\n" + "\x75\x80\xce\x2f"},
		{"two entries", api.History{ID: 9, Offset: 300}, row(stay("a", list("")), ends("b", str("v"), 7)),
			"MILLPOND\x01" + "\x09\x00\x00\x00\x00\x00\x00\x00" + "\x2c\x01\x00\x00\x00\x00\x00\x00" + "\x02\x00\x00\x00" +
				"\x02" + none + "\x01\x00\x00\x00a" + "\x01\x00\x00\x00" + "\x00\x00\x00\x00" +
				"\x01" + "\x07\x00\x00\x00\x00\x00\x00\x00" + "\x01\x00\x00\x00b" + "\x01\x00\x00\x00v" + "\x77\x81\xec\x03"},
	} {
		b, e := snapshot.Encode(c.h, c.l)
		if string(b) != c.want || e != api.OK {
			t.Errorf("%s: Encode = %q, %v, want %q", c.name, b, e, c.want)
		}
		if size, e := snapshot.Size(c.l); size != len(c.want) || e != api.OK {
			t.Errorf("%s: Size = %d, %v, want %d", c.name, size, e, len(c.want))
		}
		taken(t, c.name, []byte(c.want), c.h, c.l)
	}
}

// values are values of each kind, of one part and of several.
func values() []api.Value {
	return []api.Value{
		str(""), str("v"), str("\x00\n\r\x7f\x80\xff"), str(most),
		list(""), list("a"), list("", "", ""), list("b", "a", "b", "\xff\x00"), list(most, "", most), list(many(1000)...),
		set(""), set("a"), set("", "\x00", "a", "aa", "b", "\xff"), set(many(1000)...), set("a", most),
		zset(sc("", 0)), zset(sc("a", math.MinInt64)), zset(sc("a", math.MaxInt64)),
		zset(sc("z", math.MinInt64), sc("y", -256), sc("b", -1), sc("a", 0), sc("c", 0), sc("", 1), sc(most, math.MaxInt64)), zset(scored(1000)...),
		hash(fi("", "")), hash(fi("f", "v")), hash(fi("", "v"), fi("a", ""), fi("b", "v"), fi("c", "\x00\xff")), hash(fi("f", most), fi(most, "")), hash(fields(1000)...),
	}
}

func TestEncodeEachValue(t *testing.T) {
	for _, v := range values() {
		for _, at := range []int{api.Never, 0, 1, 255, 256, api.MaxTime - 1, api.MaxTime} {
			for _, key := range []string{"", "k", "\x00\xff\r\n"} {
				l := row(ends(key, v, at))
				b := encoded(t, api.History{ID: 5, Offset: 6}, l)
				if size, e := snapshot.Size(l); size != len(b) || e != api.OK {
					t.Fatalf("Size(%s) = %d, %v, want %d", brief(l), size, e, len(b))
				}
			}
		}
	}
}

func TestEncodeEachTwoValues(t *testing.T) {
	t.Parallel()
	for i, a := range values() {
		for j, b := range values() {
			l := row(stay("a", a), ends("b", b, i), ends("c", a, j), stay(most, b))
			told := encoded(t, known, l)
			if size, e := snapshot.Size(l); size != len(told) || e != api.OK {
				t.Fatalf("Size(%s) = %d, %v, want %d", brief(l), size, e, len(told))
			}
		}
	}
}

// The most of all of which there may be but so many.
func TestEncodeTheMost(t *testing.T) {
	t.Parallel()
	for _, l := range [][]entry{
		entries(api.MaxKeys),
		row(stay("l", list(many(api.MaxLen)...)), stay("s", set(many(api.MaxLen)...)), stay("z", zset(scored(api.MaxLen)...))),
		row(stay("h", hash(fields(api.MaxLen)...)), stay(most, str(most))),
	} {
		b := encoded(t, known, l)
		if size, e := snapshot.Size(l); size != len(b) || e != api.OK {
			t.Errorf("Size = %d, %v, want %d", size, e, len(b))
		}
		taken(t, "the most", b, known, l)
	}
}

func TestEncodeNoEntries(t *testing.T) {
	for _, l := range [][]entry{nil, {}, make([]entry, 0, 9)} {
		b, e := snapshot.Encode(known, l)
		size, also := snapshot.Size(l)
		if len(b) != bare || e != api.OK || size != bare || also != api.OK {
			t.Errorf("Encode tells %d bytes, %v; Size = %d, %v", len(b), e, size, also)
		}
	}
}

func TestEncodeOfEachID(t *testing.T) {
	for _, id := range []uint64{1, 2, 255, 256, 1 << 31, 1 << 32, 1<<63 - 1, 1 << 63, math.MaxUint64 - 1, math.MaxUint64, 0x0123456789abcdef} {
		for _, offset := range []int{0, 1, 255, 256, 1 << 32, api.MaxOffset - 1, api.MaxOffset} {
			encoded(t, api.History{ID: id, Offset: offset}, nil)
			encoded(t, api.History{ID: id, Offset: offset}, row(stay("k", str("v"))))
		}
	}
}

// Of the elder ID and its fork there is nothing in the bytes, whatever they are.
func TestEncodeTellsNoFork(t *testing.T) {
	l := row(stay("k", str("v")))
	want := string(encoded(t, api.History{ID: 7, Offset: 8}, l))
	for _, second := range []uint64{0, 1, 7, math.MaxUint64} {
		for _, fork := range []int{least, -1, 0, 1, 8, 9, api.MaxOffset, api.MaxOffset + 1, greatest} {
			h := api.History{ID: 7, Offset: 8, Second: second, Fork: fork}
			if b, e := snapshot.Encode(h, l); string(b) != want || e != api.OK {
				t.Fatalf("Encode(%+v) = %q, %v, want %q", h, b, e, want)
			}
		}
	}
}

// wrongs are rows that are no images.
func wrongs() map[string][]entry {
	v := str("v")
	l := map[string][]entry{
		"out of order":                    row(stay("b", v), stay("a", v)),
		"out of order at the end":         row(stay("a", v), stay("c", v), stay("b", v)),
		"twice the same key":              row(stay("a", v), stay("a", v)),
		"twice the same key, apart":       row(stay("a", v), stay("b", v), stay("a", v)),
		"twice the empty key":             row(stay("", v), stay("", v)),
		"too long a key":                  row(stay(over, v)),
		"an end below Never":              row(ends("a", v, -2)),
		"the least end":                   row(ends("a", v, least)),
		"an end beyond MaxTime":           row(ends("a", v, api.MaxTime+1)),
		"the greatest end":                row(ends("a", v, greatest)),
		"a second entry that may not be":  row(stay("a", v), stay("b", list())),
		"too many entries":                entries(api.MaxKeys + 1),
		"too many entries, none in order": append(entries(api.MaxKeys), stay("", list())),
	}
	for name, v := range map[string]api.Value{
		"nothing":                      {},
		"a kind below 0":               {Kind: -1, S: "v"},
		"a kind 6":                     {Kind: 6, S: "v"},
		"a kind 257":                   {Kind: 257, S: "v"},
		"the greatest kind":            {Kind: math.MaxInt, L: []string{"a"}},
		"a string with items":          {Kind: api.KString, S: "v", L: []string{"a"}},
		"a string with members":        {Kind: api.KString, Z: []api.Scored{sc("a", 1)}},
		"a string with fields":         {Kind: api.KString, H: []api.Field{fi("a", "b")}},
		"a list with a text":           {Kind: api.KList, S: "v", L: []string{"a"}},
		"a set with members":           {Kind: api.KSet, L: []string{"a"}, Z: []api.Scored{sc("a", 1)}},
		"a sorted set with items":      {Kind: api.KZset, L: []string{"a"}, Z: []api.Scored{sc("a", 1)}},
		"a hash with a text":           {Kind: api.KHash, S: "v", H: []api.Field{fi("a", "b")}},
		"too long a string":            str(over),
		"an empty list":                list(),
		"an empty set":                 set(),
		"an empty sorted set":          zset(),
		"an empty hash":                hash(),
		"too long an item":             list("a", over),
		"too long a member":            set("a", over),
		"too long a scored member":     zset(sc(over, 1)),
		"too long a field":             hash(fi(over, "v")),
		"too long a field's value":     hash(fi("f", over)),
		"too many items":               list(many(api.MaxLen + 1)...),
		"too many members":             set(many(api.MaxLen + 1)...),
		"too many scored members":      zset(scored(api.MaxLen + 1)...),
		"too many fields":              hash(fields(api.MaxLen + 1)...),
		"members out of order":         set("b", "a"),
		"a member twice":               set("a", "a"),
		"scored members out of order":  zset(sc("a", 2), sc("b", 1)),
		"scored members by texts":      zset(sc("b", 1), sc("a", 1)),
		"a scored member twice":        zset(sc("a", 1), sc("a", 1)),
		"a scored member twice, apart": zset(sc("a", 1), sc("b", 2), sc("a", 3)),
		"fields out of order":          hash(fi("b", "1"), fi("a", "2")),
		"a field twice":                hash(fi("a", "1"), fi("a", "2")),
	} {
		l[name] = row(stay("k", v))
	}
	return l
}

// noBytes holds that Encode answers an error, and nothing else.
func noBytes(t *testing.T, name string, h api.History, l []entry, want api.Errno) {
	t.Helper()
	if b, e := snapshot.Encode(h, l); b != nil || e != want {
		t.Errorf("%s: Encode(%+v) = %q, %v, want %v", name, h, first(b), e, want)
	}
}

// noSize holds that Size answers an error, and nothing else.
func noSize(t *testing.T, name string, l []entry, want api.Errno) {
	t.Helper()
	if size, e := snapshot.Size(l); size != 0 || e != want {
		t.Errorf("%s: Size = %d, %v, want %v", name, size, e, want)
	}
}

// histories of which none may be told, and their errors.
func wrongHistories() map[api.History]api.Errno {
	l := map[api.History]api.Errno{}
	for _, offset := range []int{least, least + 1, -(1 << 32), -1, api.MaxOffset + 1, 1 << 62, greatest} {
		l[api.History{ID: 1, Offset: offset}] = api.ErrRing
		l[api.History{Offset: offset}] = api.ErrID
		l[api.History{Offset: offset, Second: 1, Fork: 1}] = api.ErrID
	}
	for _, offset := range []int{0, 1, api.MaxOffset} {
		l[api.History{Offset: offset}] = api.ErrID
		l[api.History{Offset: offset, Second: 5, Fork: offset}] = api.ErrID
	}
	return l
}

func TestEncodeOfNoImage(t *testing.T) {
	for name, l := range wrongs() {
		want := api.ErrImage
		if strings.HasPrefix(name, "too many entries") {
			want = api.ErrMany
		}
		if e := image.Check(l); e != want {
			t.Fatalf("%s: Check = %v", name, e)
		}
		noSize(t, name, l, want)
		noBytes(t, name, known, l, want)
		for h := range wrongHistories() {
			noBytes(t, name, h, l, want)
		}
	}
}

func TestEncodeOfNoHistory(t *testing.T) {
	for h, want := range wrongHistories() {
		for name, l := range map[string][]entry{"none": nil, "one": row(stay("k", str("v"))), "two": row(stay("a", list("v")), ends("b", set("v"), 3))} {
			noBytes(t, name, h, l, want)
		}
	}
}

// Just as many bytes as may be, one fewer and one more; ErrLong stands behind all other errors.
func TestEncodeOfTheLongest(t *testing.T) {
	t.Parallel()
	for _, n := range []int{api.MaxStore - 1, api.MaxStore} {
		l := ofSize(t, n)
		b, e := snapshot.Encode(known, l)
		size, also := snapshot.Size(l)
		if len(b) != n || e != api.OK || size != n || also != api.OK {
			t.Errorf("Encode tells %d bytes, %v, Size = %d, %v, want %d", len(b), e, size, also, n)
		}
		if string(b) != string(told(known, l)) {
			t.Errorf("Encode tells other bytes than it must")
		}
		taken(t, "the longest", b, known, l)
		noBytes(t, "the longest", api.History{Offset: -1}, l, api.ErrID)
		noBytes(t, "the longest", api.History{ID: 1, Offset: -1}, l, api.ErrRing)
	}
}

func TestEncodeOfTooMuch(t *testing.T) {
	t.Parallel()
	long := strings.Repeat("y", api.MaxBulk-8)
	var items []string
	var members []api.Scored
	var pairs []api.Field
	for i, s := range many(1200) {
		items, members, pairs = append(items, s+long), append(members, sc(s+long, int64(i))), append(pairs, fi(s, most))
	}
	for name, l := range map[string][]entry{
		"one byte more":       ofSize(t, api.MaxStore+1),
		"a list":              row(stay("k", list(items...))),
		"a set":               row(stay("k", set(items...))),
		"a sorted set":        row(stay("k", zset(members...))),
		"a hash":              row(stay("k", hash(pairs...))),
		"the greatest list":   row(stay("k", list(repeated(api.MaxLen)...))),
		"many greatest lists": lists(300),
		"strings":             strs(1200),
	} {
		if e := image.Check(l); e != api.OK {
			t.Fatalf("%s: Check = %v", name, e)
		}
		noSize(t, name, l, api.ErrLong)
		noBytes(t, name, known, l, api.ErrLong)
		for h, want := range wrongHistories() {
			noBytes(t, name, h, l, want)
		}
		l = append(l, stay("", str("v")))
		noSize(t, name, l, api.ErrImage)
		noBytes(t, name, known, l, api.ErrImage)
	}
}

// repeated are n texts, all one and the same, as long as may be.
func repeated(n int) []string {
	l := make([]string, n)
	for i := range l {
		l[i] = most
	}
	return l
}

// lists are n entries with lists of 2^32 bytes.
func lists(n int) []entry {
	items := repeated(api.MaxLen)
	l := entries(n)
	for i := range l {
		l[i].V = list(items...)
	}
	return l
}

// strs are n entries with strings.
func strs(n int) []entry {
	l := entries(n)
	for i := range l {
		l[i].V = str(most)
	}
	return l
}

// What the parts of bytes have in all: a text of each length, keys of each length, and each count.
func TestSizeOfEachPart(t *testing.T) {
	for n := range 300 {
		s := most[:n]
		for i, l := range [][]entry{
			row(stay("k", str(s))), row(stay(s, str(""))), row(stay("k", list(s))), row(stay("k", set(s))),
			row(stay("k", zset(sc(s, 1)))), row(stay("k", hash(fi(s, "")))), row(stay("k", hash(fi("", s)))),
			row(stay("k", list(many(n+1)...))), row(stay("k", set(many(n+1)...))), row(stay("k", zset(scored(n+1)...))),
			row(stay("k", hash(fields(n+1)...))), entries(n),
		} {
			if size, e := snapshot.Size(l); size != len(told(known, l)) || e != api.OK {
				t.Fatalf("%d, %d: Size = %d, %v, want %d", n, i, size, e, len(told(known, l)))
			}
			encoded(t, known, l)
		}
	}
}
