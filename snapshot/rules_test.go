package snapshot_test

import (
	"math"
	"runtime"
	"slices"
	"strings"
	"sync"
	"testing"
	"unsafe"

	"millpond/api"
	"millpond/image"
	"millpond/snapshot"
)

// Rules 1, 4 and 5: every call ends; nothing that is handed in is changed or kept; answers are new memory; the same comes again

// clone is a row in memory of its own, with its texts.
func clone(l []entry) []entry {
	own := slices.Clone(l)
	for i := range own {
		e := &own[i]
		e.Key, e.V.S = strings.Clone(e.Key), strings.Clone(e.V.S)
		e.V.L, e.V.Z, e.V.H = slices.Clone(e.V.L), slices.Clone(e.V.Z), slices.Clone(e.V.H)
		for j, s := range e.V.L {
			e.V.L[j] = strings.Clone(s)
		}
		for j, s := range e.V.Z {
			e.V.Z[j].M = strings.Clone(s.M)
		}
		for j, f := range e.V.H {
			e.V.H[j] = fi(strings.Clone(f.F), strings.Clone(f.V))
		}
	}
	return own
}

// roomy is a row like another one; behind it, and behind each list in it, there is room with things that must stay.
func roomy(l []entry) []entry {
	own := append(clone(l), stay("behind", list("behind")))[:len(l)]
	for i := range own {
		v := &own[i].V
		v.L = append(v.L, "behind")[:len(v.L)]
		v.Z = append(v.Z, sc("behind", 7))[:len(v.Z)]
		v.H = append(v.H, fi("behind", "it"))[:len(v.H)]
	}
	return own
}

// whole is a row with one thing of what is behind it, and behind each list in it.
func whole(l []entry) []entry {
	own := clone(l[:len(l)+1])
	for i := range l {
		v := &own[i].V
		v.L, v.Z, v.H = slices.Clone(l[i].V.L[:len(v.L)+1]), slices.Clone(l[i].V.Z[:len(v.Z)+1]), slices.Clone(l[i].V.H[:len(v.H)+1])
	}
	return own
}

// given are rows to be handed in; some are no images.
func given() [][]entry {
	return [][]entry{
		nil, {}, mixed(), row(stay("k", str("v"))),
		row(stay("b", set("c", "a")), ends("a", hash(fi("b", ""), fi("a", "")), 3)),
		row(stay("a", zset(sc("b", 2), sc("a", 1))), stay("a", list())),
		row(stay("b", api.Value{Kind: api.KSet, S: "s", L: []string{"z", "a"}, Z: []api.Scored{sc("b", 2)}, H: []api.Field{fi("b", "")}})),
	}
}

func TestEncodeChangesNothing(t *testing.T) {
	for _, l := range given() {
		own := roomy(l)
		was := whole(own)
		for _, h := range []api.History{{}, known, {ID: 1, Offset: -1}} {
			snapshot.Encode(h, own)
			snapshot.Size(own)
		}
		if !image.Same(whole(own), was) {
			t.Errorf("what was handed in is %v now; it was %v", whole(own), was)
		}
	}
}

func TestDecodeAndSumChangeNothing(t *testing.T) {
	for _, s := range []string{"", "x", string(told(known, mixed())), body(known, nil), string(sealed(strings.Repeat("\xff", 50))), string(told(api.History{}, nil))} {
		room := []byte("ahead" + s + "behind")
		b := room[5 : 5+len(s)]
		rows := [][]byte{b, nil, b[:len(b)/2], []byte("more")}
		snapshot.Decode(b)
		snapshot.Sum(b)
		snapshot.Sum(rows[:2]...)
		if string(room) != "ahead"+s+"behind" || string(rows[3]) != "more" || len(rows[2]) != len(b)/2 {
			t.Errorf("what was handed in is %q now", room)
		}
	}
}

// What was answered stays as it was when what was handed in is written into, and each other way round.
func TestNothingIsKept(t *testing.T) {
	b := told(known, mixed())
	h, l, e := snapshot.Decode(b)
	clear(b)
	if h != known || !image.Same(l, mixed()) || e != api.OK {
		t.Errorf("Decode = %+v, %s, %v behind what was written into its bytes", h, brief(l), e)
	}

	own := clone(mixed())
	a, _ := snapshot.Encode(known, own)
	for i := range own {
		own[i].At, own[i].Key = 99, "other"
		for j := range own[i].V.L {
			own[i].V.L[j] = "other"
		}
	}
	if string(a) != string(told(known, mixed())) {
		t.Errorf("Encode = %q behind what was written into its entries", a)
	}
	other, _ := snapshot.Encode(known, mixed())
	clear(a[:cap(a)])
	if again, _ := snapshot.Encode(known, mixed()); string(again) != string(other) || string(other) != string(told(known, mixed())) {
		t.Errorf("Encode = %q and %q behind what was written into another answer", other, again)
	}
}

// place is some memory: where it begins and ends.
type place struct{ from, to uintptr }

// places are where the bytes of some entries lie, lists up to the ends of their rooms. Texts of one byte are left out: all of them lie in one place of the language's own.
func places(l []entry) []place {
	var all []place
	memory := func(at unsafe.Pointer, n int) {
		if n > 1 {
			all = append(all, place{uintptr(at), uintptr(at) + uintptr(n)})
		}
	}
	text := func(s string) { memory(unsafe.Pointer(unsafe.StringData(s)), len(s)) }
	memory(unsafe.Pointer(unsafe.SliceData(l)), cap(l)*int(unsafe.Sizeof(entry{})))
	for _, e := range l {
		text(e.Key)
		text(e.V.S)
		memory(unsafe.Pointer(unsafe.SliceData(e.V.L)), cap(e.V.L)*int(unsafe.Sizeof("")))
		memory(unsafe.Pointer(unsafe.SliceData(e.V.Z)), cap(e.V.Z)*int(unsafe.Sizeof(api.Scored{})))
		memory(unsafe.Pointer(unsafe.SliceData(e.V.H)), cap(e.V.H)*int(unsafe.Sizeof(api.Field{})))
		for _, s := range e.V.L {
			text(s)
		}
		for _, m := range e.V.Z {
			text(m.M)
		}
		for _, f := range e.V.H {
			text(f.F)
			text(f.V)
		}
	}
	return all
}

func TestAnswersShareNoMemory(t *testing.T) {
	l := row(stay("aa", list("xx", "xx", "yy")), stay("bb", set("xx", "yy")), stay("cc", zset(sc("xx", 1), sc("yy", 2))), stay("dd", hash(fi("xx", "xx"), fi("yy", "xx"))), stay("ee", str("xx")))
	b, _ := snapshot.Encode(known, l)
	again, _ := snapshot.Encode(known, l)
	_, first, _ := snapshot.Decode(b)
	_, second, _ := snapshot.Decode(b)
	all := slices.Concat(places(first), places(second), places(clone(l)))
	for _, x := range [][]byte{b, again} {
		from := uintptr(unsafe.Pointer(unsafe.SliceData(x)))
		all = append(all, place{from, from + uintptr(cap(x))})
	}
	slices.SortFunc(all, func(a, b place) int { return int(a.from) - int(b.from) })
	for i := range len(all) - 1 {
		if all[i+1].from < all[i].to {
			t.Fatalf("two answers lie in one place")
		}
	}
	runtime.KeepAlive(l)
	runtime.KeepAlive(first)
	runtime.KeepAlive(second)
}

func TestManyAtOnce(t *testing.T) {
	m := newMaker(9)
	l := m.image(50, 10, 20)
	want := told(known, l)
	var all sync.WaitGroup
	for range 8 {
		all.Go(func() {
			for range 50 {
				b, e := snapshot.Encode(known, l)
				h, got, also := snapshot.Decode(want)
				size, third := snapshot.Size(l)
				if string(b) != string(want) || e != api.OK || h != known || !image.Same(got, l) || also != api.OK || size != len(want) || third != api.OK {
					t.Errorf("another answer beside others")
				}
				if snapshot.Sum(want) != slow(want) {
					t.Errorf("another sum beside others")
				}
			}
		})
	}
	all.Wait()
}

// Arguments of all sorts: hand-made entries, of kinds and with parts that may not be.
func TestAnyArguments(t *testing.T) {
	m := newMaker(10)
	for range 5000 {
		var l []entry
		for range m.IntN(4) {
			v := api.Value{Kind: api.Kind(m.IntN(9) - 2), S: m.text(2)}
			for range m.IntN(3) {
				v.L, v.Z, v.H = append(v.L, m.text(2)), append(v.Z, sc(m.text(2), m.score())), append(v.H, fi(m.text(2), m.text(2)))
			}
			if m.IntN(2) == 0 {
				v = m.value(3, 1)
			}
			l = append(l, ends(m.text(2), v, []int{least, -2, -1, 0, 5, api.MaxTime, api.MaxTime + 1, greatest}[m.IntN(8)]))
		}
		h := api.History{ID: m.Uint64() * uint64(m.IntN(2)), Offset: []int{least, -1, 0, 1, api.MaxOffset, api.MaxOffset + 1, greatest}[m.IntN(7)], Second: m.Uint64(), Fork: int(m.Uint64())}
		want := image.Check(l)
		if size, e := snapshot.Size(l); e != want || e != api.OK && size != 0 || e == api.OK && size != len(told(h, l)) {
			t.Fatalf("Size(%v) = %d, %v", l, size, e)
		}
		switch {
		case want != api.OK:
		case h.ID == 0:
			want = api.ErrID
		case h.Offset < 0 || h.Offset > api.MaxOffset:
			want = api.ErrRing
		}
		if want != api.OK {
			noBytes(t, "drawn", h, l, want)
			continue
		}
		thereAndBack(t, h, l)
	}
}

// Entries that were made by hand, with all that a number may be.
func TestNumbersAtTheirEnds(t *testing.T) {
	for _, n := range []int64{math.MinInt64, math.MinInt64 + 1, -1 << 32, -256, -255, -1, 0, 1, 127, 128, 255, 256, 1 << 31, 1 << 32, 1<<63 - 2, math.MaxInt64} {
		thereAndBack(t, known, row(stay("k", zset(sc("a", n)))))
	}
	for shift := range 64 {
		for _, n := range []int64{1 << shift, -1 << shift, 1<<shift - 1} {
			thereAndBack(t, api.History{ID: 1 << shift, Offset: 1 << min(shift, 50)}, row(ends("k", zset(sc("a", n)), 1<<min(shift, 40))))
		}
	}
}
