package space_test

import (
	"slices"
	"strings"
	"testing"
	"unsafe"

	"millpond/api"
	"millpond/image"
	"millpond/space"
)

// Rule 3: a space that is nil, or that neither New nor Load made

// unmade are spaces that no call made; what those of which some are copies hold must stay.
func unmade(t *testing.T) (map[string]*space.Space, *space.Space, *space.Space) {
	made, empty := load(t, ends("a", str("v"), 5), stay("b", list("x"))), space.New()
	copied, copiedEmpty := *made, *empty
	ofCopy := copied
	return map[string]*space.Space{"nil": nil, "the zero Space": {}, "new": new(space.Space), "a copy": &copied, "a copy of a copy": &ofCopy, "a copy of an empty one": &copiedEmpty}, made, empty
}

func TestASpaceThatNoCallMade(t *testing.T) {
	for _, role := range append(unlike, api.RolePrimary, api.RoleReader) {
		c := by(role, 9, 1)
		spaces, made, empty := unmade(t)
		for name, s := range spaces {
			for _, key := range []string{"a", "b", "", over} {
				if v, seen, told := s.Get(c, key); !image.SameValue(v, api.Value{}) || seen || len(told) > 0 {
					t.Errorf("Get of %s = %v, %t, %q", name, v, seen, told)
				}
				if e, there := s.Look(key); !image.Same(row(e), row(entry{})) || there {
					t.Errorf("Look of %s = %v, %t", name, e, there)
				}
				for _, v := range []api.Value{str("v"), {}, list()} {
					for _, at := range []int{-2, -1, 0, 1} {
						if e := s.Put(key, v, at); e != api.ErrNil {
							t.Errorf("Put on %s = %v", name, e)
						}
						if s.End(key, at) {
							t.Errorf("End on %s = true", name)
						}
					}
				}
				if s.Del(key) {
					t.Errorf("Del on %s = true", name)
				}
			}
			if key, seen, told := s.Pick(c); key != "" || seen || len(told) > 0 {
				t.Errorf("Pick of %s = %q, %t, %q", name, key, seen, told)
			}
			if told := s.Expire(9, 9); len(told) > 0 || s.Over(9) != 0 {
				t.Errorf("Expire of %s tells %q; Over = %d", name, told, s.Over(9))
			}
			if keys := s.Keys(c); len(keys) > 0 {
				t.Errorf("Keys of %s = %q", name, keys)
			}
			if n := s.Clear(); n != 0 || s.Len() != 0 || len(s.Image()) > 0 {
				t.Errorf("Clear of %s = %d; Len = %d, Image = %v", name, n, s.Len(), s.Image())
			}
		}
		holds(t, "calls on its copies", made, ends("a", str("v"), 5), stay("b", list("x")))
		holds(t, "calls on its copies", empty)
		if made.Put("c", str(""), 1) != api.OK || empty.Put("c", str(""), 1) != api.OK {
			t.Error("Put on a space that was copied tells an error")
		}
	}
}

// Rule 4: nothing that is handed in is changed or kept, and what is told is new memory

// all is one value of each kind, and a time for each.
func all() []api.Entry {
	return row(ends("a", list("b", "a", "b"), 3), stay("b", set("c", "d")), ends("c", zset(sc("n", -1), sc("m", 4)), 5), ends("d", hash(fi("f", "v"), fi("g", "")), 0), stay("e", str("s")), ends("f", set("x"), 3))
}

// roomy is a row like another one; behind it, and behind each list in it, there is room with things that must stay.
func roomy(l []api.Entry) []api.Entry {
	own := append(clone(l), stay("behind", list("behind")))[:len(l)]
	for i := range own {
		v := &own[i].V
		v.L = append(v.L, "behind")[:len(v.L)]
		v.Z = append(v.Z, sc("behind", 7))[:len(v.Z)]
		v.H = append(v.H, fi("behind", "it"))[:len(v.H)]
	}
	return own
}

// whole is a row with one thing of what is behind it, and behind each list in it.
func whole(l []api.Entry) []api.Entry {
	own := clone(l[:len(l)+1])
	for i := range l {
		v := &own[i].V
		v.L, v.Z, v.H = slices.Clone(l[i].V.L[:len(v.L)+1]), slices.Clone(l[i].V.Z[:len(v.Z)+1]), slices.Clone(l[i].V.H[:len(v.H)+1])
	}
	return own
}

// clone is a row of entries that shares no list with another one.
func clone(l []api.Entry) []api.Entry {
	own := slices.Clone(l)
	for i := range own {
		v := &own[i].V
		v.L, v.Z, v.H = slices.Clone(v.L), slices.Clone(v.Z), slices.Clone(v.H)
	}
	return own
}

// spoil writes over all that a row of entries holds, up to the ends of its memory.
func spoil(l []api.Entry) {
	for i := range l {
		spoilValue(l[i].V)
	}
	l = l[:cap(l)]
	for i := range l {
		l[i] = ends("spoilt", list("spoilt"), 99)
	}
}

func spoilValue(v api.Value) {
	spoilTexts(v.L)
	members, fields := v.Z[:cap(v.Z)], v.H[:cap(v.H)]
	for i := range members {
		members[i] = sc("spoilt", 99)
	}
	for i := range fields {
		fields[i] = fi("spoilt", "spoilt")
	}
}

func spoilTexts(l []string) {
	l = l[:cap(l)]
	for i := range l {
		l[i] = "spoilt"
	}
}

func spoilTold(told [][]string) {
	for _, command := range told {
		spoilTexts(command)
	}
	told = told[:cap(told)]
	for i := range told {
		told[i] = []string{"spoilt"}
	}
}

func TestWhatIsHandedInIsNeitherChangedNorKept(t *testing.T) {
	l := roomy(all())
	was := whole(l)
	s, put := load(t, l...), space.New()
	for _, e := range l {
		if wrong := put.Put(e.Key, e.V, e.At); wrong != api.OK {
			t.Fatalf("Put = %v", wrong)
		}
		if wrong := put.Put(e.Key, e.V, e.At); wrong != api.OK { // it is there now
			t.Fatalf("Put again = %v", wrong)
		}
	}
	args := []string{"GET", "a", "behind"}[:2]
	for _, x := range []*space.Space{s, put} {
		for _, role := range []api.Role{2, 3, 0} {
			c := api.Call{Now: 4, Draw: 1, Role: role, Args: args}
			x.Get(c, "a")
			x.Pick(c)
			x.Keys(c)
		}
		x.Image()
		x.Look("a")
		x.Over(4)
	}
	if !image.Same(whole(l), was) || !slices.Equal(args[:3], []string{"GET", "a", "behind"}) {
		t.Fatalf("what was handed in is %v and %q now", whole(l), args[:3])
	}
	spoil(l)
	holds(t, "what was loaded is spoilt", s, all()...)
	holds(t, "what was put is spoilt", put, all()...)
}

// Whatever is done to one answer, neither the space nor another answer changes.
func TestWhatIsToldSharesNoList(t *testing.T) {
	s := load(t, all()...)
	reader := by(api.RoleReader, 0, 1)
	answers := func() [][]api.Entry {
		told := [][]api.Entry{s.Image()}
		for _, key := range []string{"a", "b", "c", "e", "f"} {
			e, _ := s.Look(key)
			v, seen, _ := s.Get(reader, key)
			if !seen {
				t.Fatalf("Get of %q tells nothing", key)
			}
			told = append(told, row(e), row(stay(key, v)))
		}
		return append(told, s.Image())
	}
	first, second := answers(), answers()
	var was [][]api.Entry
	for _, l := range first {
		was = append(was, clone(l))
	}
	for i, l := range second {
		spoil(l)
		if !slices.EqualFunc(second[i+1:], was[i+1:], image.Same) || !slices.EqualFunc(first, was, image.Same) {
			t.Fatalf("answer %d shares memory with another one", i)
		}
		holds(t, "an answer is spoilt", s, all()...)
	}
	keys, again := s.Keys(reader), s.Keys(reader)
	spoilTexts(keys)
	if !slices.Equal(again, []string{"a", "b", "c", "e", "f"}) || !slices.Equal(s.Keys(reader), again) {
		t.Errorf("Keys, when those told ahead are spoilt, = %q, %q", again, s.Keys(reader))
	}
}

// The lists within one answer share nothing, also where those that were handed in do.
func TestTheListsOfAnImageShareNothing(t *testing.T) {
	texts, members, fields := []string{"a", "b"}, []api.Scored{sc("a", 1), sc("b", 2)}, []api.Field{fi("a", ""), fi("b", "")}
	l := row(stay("a", list(texts...)), stay("b", set(texts...)), stay("c", zset(members...)), stay("d", hash(fields...)), stay("e", list(texts[:1]...)), stay("f", list(texts[1:]...)), stay("g", zset(members...)), stay("h", hash(fields[:1]...)))
	s := load(t, l...)
	want := clone(l)
	got := s.Image()
	for i := range got {
		spoilValue(got[i].V)
		if !image.Same(got[i+1:], want[i+1:]) {
			t.Fatalf("the lists of entry %d share memory with others", i)
		}
	}
	holds(t, "an image is spoilt", s, want...)
}

// Commands that are told share nothing with each other, nor with the space.
func TestWhatIsToldForTheStreamSharesNothing(t *testing.T) {
	for name, tell := range map[string]func(s *space.Space) [][]string{
		"Expire": func(s *space.Space) [][]string { return s.Expire(5, 9) },
		"Pick": func(s *space.Space) [][]string {
			_, _, told := s.Pick(by(api.RolePrimary, 5, 0))
			return told
		},
	} {
		l := row(ends("a", str(""), 5), ends("b", str(""), 5), ends("c", str(""), 5))
		s := load(t, l...)
		told := tell(s)
		want := slices.Clone(told)
		for i := range want {
			want[i] = slices.Clone(told[i])
		}
		if len(told) != 3 {
			t.Fatalf("%s tells %q", name, told)
		}
		for i := range told {
			spoilTexts(told[i])
			if !sameTold(told[i+1:], want[i+1:]) {
				t.Fatalf("what %s tells shares memory", name)
			}
		}
		again := load(t, l...)
		spoilTold(told)
		if told := tell(again); !sameTold(told, want) {
			t.Fatalf("%s tells %q when what it told ahead is spoilt", name, told)
		}
	}
	s := load(t, ends("a", str(""), 5), ends("b", str(""), 5))
	_, _, first := s.Get(by(api.RolePrimary, 5, 0), "a")
	_, _, second := s.Get(by(api.RolePrimary, 5, 0), "b")
	spoilTold(first)
	if !sameTold(second, dels("b")) {
		t.Errorf("Get told %q, now that what it told ahead is spoilt", second)
	}
}

// Texts lie in memory of their own, too.
func TestTextsAreNeitherKeptNorShared(t *testing.T) {
	memory := []byte("abcdefgh")
	text := unsafe.String(&memory[0], len(memory))
	entries := func(s ...string) []api.Entry {
		return row(ends(s[0], list(s[1], s[2]), 5), stay(s[2], set(s[1], s[3])), ends(s[3], zset(sc(s[5], -1), sc(s[4], 2)), 5), stay(s[4], hash(fi(s[1], s[2]), fi(s[5], s[6]))), stay(s[5], str(s[7])))
	}
	parts := make([]string, len(memory))
	for i := range parts {
		parts[i] = text[i : i+1]
	}
	l, want := entries(parts...), entries(strings.Split("abcdefgh", "")...)
	s, put := load(t, l...), space.New()
	for _, e := range l {
		put.Put(e.Key, e.V, e.At)
	}
	c := by(api.RolePrimary, 5, 0)
	_, _, told := s.Get(c, parts[0])
	v, _, _ := s.Get(c, parts[2])
	e, _ := s.Look(parts[4])
	copy(memory, "........")
	if !sameTold(told, dels("a")) || !image.SameValue(v, want[1].V) || !image.Same(row(e), want[3:4]) {
		t.Errorf("what was told is %q, %v, %v when a text that was handed in changes", told, v, e)
	}
	holds(t, "texts that were loaded change", s, want[1:]...)
	holds(t, "texts that were put change", put, want...)
	checkTextsOfAnswers(t, put)
}

// checkTextsOfAnswers holds the places of the texts that a space tells against each other: none may come twice.
func checkTextsOfAnswers(t *testing.T, s *space.Space) {
	t.Helper()
	seen := map[*byte]bool{}
	see := func(texts ...string) {
		for _, x := range texts {
			if x != "" && seen[unsafe.StringData(x)] {
				t.Fatalf("the text %q of an answer stands in another one, too", x)
			}
			seen[unsafe.StringData(x)] = true
		}
	}
	seeEntries := func(l ...api.Entry) {
		for _, e := range l {
			see(e.Key, e.V.S)
			see(e.V.L...)
			for _, m := range e.V.Z {
				see(m.M)
			}
			for _, f := range e.V.H {
				see(f.F, f.V)
			}
		}
	}
	reader := by(api.RoleReader, 0, 1)
	for range 2 {
		l := s.Image()
		seeEntries(l...)
		for _, e := range l {
			got, _ := s.Look(e.Key)
			v, _, _ := s.Get(reader, e.Key)
			seeEntries(got, api.Entry{V: v})
		}
		see(s.Keys(reader)...)
		key, _, _ := s.Pick(reader)
		see(key)
	}
	for _, command := range s.Expire(5, 9) {
		see(command[1])
	}
}

// nil and empty lists are the same.
func TestNilAndEmptyLists(t *testing.T) {
	filled := clone(all())
	for i := range filled {
		v := &filled[i].V
		v.L, v.Z, v.H = append([]string{}, v.L...), append([]api.Scored{}, v.Z...), append([]api.Field{}, v.H...)
	}
	s, put := load(t, filled...), space.New()
	for _, e := range filled {
		if wrong := put.Put(e.Key, e.V, e.At); wrong != api.OK {
			t.Fatalf("Put = %v", wrong)
		}
	}
	holds(t, "Load", s, all()...)
	holds(t, "Put", put, all()...)
	for _, l := range [][]api.Entry{nil, {}} {
		holds(t, "Load", load(t, l...))
	}
}

// Rule 5: the same again, and spaces with the same entries are alike, in whatever order these came.
func TestTheSameAgain(t *testing.T) {
	m := newMaker(4)
	for range 200 {
		l := numbered(20, func(int) int { return m.at() })
		for i := range l {
			l[i].At = max(l[i].At, api.Never)
		}
		a, b := load(t, l...), space.New()
		for _, i := range m.Perm(40) {
			e := ends("gone", str(""), 0)
			if i < 20 {
				e = l[i]
			}
			b.Put(e.Key, e.V, e.At)
		}
		b.Del("gone")
		for range 20 {
			x := m.step(1, strings.Fields("Image Len Get Look Pick Over Expire Keys")...)
			x.e.Key = l[m.IntN(20)].Key
			_, one := onSpace(a, x)
			_, other := onSpace(b, x)
			if one != other {
				t.Fatalf("%+v answers %s, then %s", x, short(one), short(other))
			}
		}
	}
}
