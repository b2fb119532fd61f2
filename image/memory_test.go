package image_test

import (
	"slices"
	"strings"
	"testing"
	"unsafe"

	"millpond/api"
	"millpond/image"
)

// Rules 4 and 5: nothing that is handed in is changed or kept, what is told is new memory, and the same comes again

// told are all rows that the package tells of a row, an image or none, and an entry.
func told(l []api.Entry, e api.Entry) [][]api.Entry {
	var all [][]api.Entry
	tell := func(l []api.Entry) { all = append(all, l) }
	canon, _ := image.Canon(l...)
	tell(canon)
	canon, _ = image.Canon(e)
	tell(canon)
	for _, x := range append(slices.Clone(l), e, stay("z", e.V), stay("none", str(""))) {
		with, _ := image.Put(l, x)
		tell(with)
		with, _ = image.Put(nil, x)
		tell(with)
		rest, _ := image.Del(l, x.Key)
		tell(rest)
		found, _ := image.Find(l, x.Key)
		tell(row(found))
	}
	for now := range 7 {
		tell(image.Live(l, now-1))
	}
	text, _ := image.Text(l)
	read, _, _ := image.Read(text)
	tell(read)
	read, _, _ = image.Read(text)
	tell(read)
	image.Digest(l)
	image.Check(l)
	image.Value(e.V)
	image.Same(l, row(e))
	image.SameValue(e.V, e.V)
	return all
}

// given are rows to be handed in; some are no images.
func given() [][]api.Entry {
	return [][]api.Entry{
		nil,
		row(stay("k", str("v"))),
		row(ends("a", list("b", "a", "b"), 3), stay("b", set("c", "d")), ends("c", zset(sc("n", -1), sc("m", 4)), 5), stay("d", hash(fi("f", "v"), fi("g", ""))), stay("e", str("s"))),
		row(stay("d", set("d", "c", "e")), ends("c", zset(sc("n", 4), sc("m", 4), sc("o", -1)), 5), ends("b", hash(fi("g", "v"), fi("f", "w")), 4), stay("a", list("x", "x"))),
		row(stay("b", set("b", "a")), stay("a", str("")), stay("b", api.Value{Kind: api.KSet, S: "s", L: []string{"z", "a"}, Z: []api.Scored{sc("b", 2), sc("a", 1)}, H: []api.Field{fi("b", ""), fi("a", "")}})),
	}
}

// roomy is a row like another one; behind it, and behind each list in it, there is room with things that must stay.
func roomy(l []api.Entry) []api.Entry {
	own := append(clone(l), stay("behind", list("behind")))[:len(l)]
	for i := range own {
		v := &own[i].V
		v.L = append(v.L, "behind")[:len(v.L)]
		v.Z = append(v.Z, sc("behind", 7))[:len(v.Z)]
		v.H = append(v.H, fi("behind", "it"))[:len(v.H)]
	}
	return own
}

// whole is a row with one thing of what is behind it, and behind each list in it.
func whole(l []api.Entry) []api.Entry {
	own := clone(l[:len(l)+1])
	for i := range l {
		v := &own[i].V
		v.L, v.Z, v.H = slices.Clone(l[i].V.L[:len(v.L)+1]), slices.Clone(l[i].V.Z[:len(v.Z)+1]), slices.Clone(l[i].V.H[:len(v.H)+1])
	}
	return own
}

func TestNothingHandedInIsChanged(t *testing.T) {
	for _, a := range given() {
		for _, b := range given()[1:] {
			for i := range b {
				l, one := roomy(a), roomy(b[i:i+1])
				wasL, wasOne := whole(l), whole(one)
				told(l, one[0])
				if !same(whole(l), wasL) || !same(whole(one), wasOne) {
					t.Fatalf("what was handed in is %v and %v now; it was %v and %v", whole(l), whole(one), wasL, wasOne)
				}
			}
		}
	}
}

// spoil writes over all that a row holds, up to the ends of its memory.
func spoil(l []api.Entry) {
	for i := range l {
		spoilValue(l[i].V)
	}
	l = l[:cap(l)]
	for i := range l {
		l[i] = ends("spoilt", list("spoilt"), 99)
	}
}

func spoilValue(v api.Value) {
	texts, members, fields := v.L[:cap(v.L)], v.Z[:cap(v.Z)], v.H[:cap(v.H)]
	for i := range texts {
		texts[i] = "spoilt"
	}
	for i := range members {
		members[i] = sc("spoilt", 99)
	}
	for i := range fields {
		fields[i] = fi("spoilt", "spoilt")
	}
}

func TestWhatIsToldSharesNoList(t *testing.T) {
	for _, a := range given() {
		for _, b := range given()[1:] {
			for _, e := range b {
				l, one := roomy(a), roomy(row(e))
				wasL, wasOne := whole(l), whole(one)
				first, second := told(l, one[0]), told(l, one[0])
				var was [][]api.Entry
				for _, r := range first {
					was = append(was, clone(r))
				}
				if !slices.EqualFunc(second, was, same) {
					t.Fatal("the same calls tell something else")
				}
				for i, r := range second { // whatever is done to one row, no other one changes
					spoil(r)
					for j := i + 1; j < len(second); j++ {
						if !same(second[j], was[j]) {
							t.Fatalf("rows %d and %d of those that are told share memory", i, j)
						}
					}
				}
				if !slices.EqualFunc(first, was, same) {
					t.Fatal("rows that two calls tell share memory")
				}
				if !same(whole(l), wasL) || !same(whole(one), wasOne) {
					t.Fatal("a row that is told shares memory with what was handed in")
				}
				spoil(l)
				spoil(one)
				if !slices.EqualFunc(first, was, same) {
					t.Fatal("a row that is told shares memory with what was handed in")
				}
			}
		}
	}
}

// The lists within one row that is told share nothing, also where those that were handed in do.
func TestTheListsOfARowShareNothing(t *testing.T) {
	texts, members, fields := []string{"a", "b"}, []api.Scored{sc("a", 1), sc("b", 2)}, []api.Field{fi("a", ""), fi("b", "")}
	l := row(stay("a", list(texts...)), stay("b", set(texts...)), stay("c", zset(members...)), stay("d", hash(fields...)), stay("e", list(texts[:1]...)), stay("f", list(texts[1:]...)), stay("g", zset(members...)), stay("h", hash(fields[:1]...)))
	for _, r := range told(l, ends("aa", list(texts...), 5)) {
		for i := range r {
			was := clone(r)
			spoilValue(r[i].V)
			if !same(r[:i], was[:i]) || !same(r[i+1:], was[i+1:]) {
				t.Fatalf("lists of %v share memory with those of entry %d", was, i)
			}
			r[i] = was[i]
		}
	}
	if texts[0] != "a" || texts[1] != "b" || members[1] != sc("b", 2) || fields[1] != fi("b", "") {
		t.Fatal("lists that are told share memory with those that were handed in")
	}
}

// The texts that are told lie in memory of their own, too.
func TestWhatIsToldSharesNoText(t *testing.T) {
	entries := func(s []string) ([]api.Entry, api.Entry) {
		l := row(ends(s[0], list(s[1], s[2]), 5), stay(s[2], set(s[1], s[3])), stay(s[3], zset(sc(s[5], -1), sc(s[4], 2))), stay(s[4], hash(fi(s[1], s[2]), fi(s[5], s[6]))), stay(s[5], str(s[7])))
		return l, stay(s[1], hash(fi(s[0], s[3])))
	}
	memory := []byte("abcdefgh")
	all := unsafe.String(&memory[0], len(memory))
	var parts []string
	for i := range memory {
		parts = append(parts, all[i:i+1])
	}
	l, e := entries(parts)
	got := told(l, e)
	rest, gone := image.Del(l, "none")
	got = append(got, rest)
	want := told(entries(strings.Split("abcdefgh", "")))
	plain, _ := entries(strings.Split("abcdefgh", ""))
	want = append(want, plain)
	if gone || !slices.EqualFunc(got, want, same) {
		t.Fatalf("told %v; want %v", got, want)
	}
	copy(memory, "........")
	if !slices.EqualFunc(got, want, same) {
		t.Fatalf("what was told is %v when texts that were handed in change; it was %v", got, want)
	}
	text := []byte(modelText(plain))
	read, _, _ := image.Read(unsafe.String(&text[0], len(text)))
	for i := range text {
		text[i] = '.'
	}
	if !same(read, plain) {
		t.Fatalf("what was read is %v when the text changes; it was %v", read, plain)
	}
}

// Rule 5: the order in which maps are gone through plays no part.
func TestTheSameAgain(t *testing.T) {
	m := newMaker(6)
	for range 30 {
		l, e := m.shuffled(m.image(t, 12)), m.entry("k")
		want := told(l, e)
		for range 20 {
			if got := told(clone(l), e); !slices.EqualFunc(got, want, same) {
				t.Fatalf("the same calls tell %v, then %v", want, got)
			}
		}
	}
}

// nil and empty lists are the same, in arguments, too.
func TestNilAndEmptyLists(t *testing.T) {
	fill := func(l []api.Entry) []api.Entry {
		own := append([]api.Entry{}, l...)
		for i := range own {
			v := &own[i].V
			v.L, v.Z, v.H = append([]string{}, v.L...), append([]api.Scored{}, v.Z...), append([]api.Field{}, v.H...)
		}
		return own
	}
	for _, l := range given() {
		for _, e := range append(l, stay("x", str(""))) {
			if !slices.EqualFunc(told(l, e), told(fill(l), fill(row(e))[0]), same) {
				t.Fatalf("nil and empty lists of %v are not told alike", l)
			}
		}
		text, errno := image.Text(l)
		again, errnoAgain := image.Text(fill(l))
		if text != again || errno != errnoAgain || image.Check(l) != image.Check(fill(l)) || !image.Same(l, fill(l)) {
			t.Fatalf("nil and empty lists of %v are not alike", l)
		}
	}
}
