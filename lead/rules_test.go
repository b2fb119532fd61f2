package lead_test

import (
	"bytes"
	"fmt"
	"runtime"
	"slices"
	"strings"
	"sync"
	"testing"
	"unsafe"

	"millpond/api"
	"millpond/lead"
)

// Rule 3: a Lead that is nil, or that New did not make

func asksNothing(t *testing.T, name string, l *lead.Lead) {
	t.Helper()
	errors := map[string]api.Errno{
		"Feed of none": l.Feed(), "Feed": l.Feed(words("SET k v")), "Feed of what may not be": l.Feed(nil, []string{over}),
		"Raw of none": l.Raw(nil), "Raw": l.Raw([]byte("abc")),
	}
	for _, id := range []uint64{0, 1, mostID} {
		errors[fmt.Sprint("Fork", id)] = l.Fork(id)
		for _, offset := range append(ends, api.MaxOffset) {
			errors[fmt.Sprint("Follow", id, offset)] = l.Follow(id, offset)
		}
	}
	for _, n := range ends {
		for _, other := range append(ends, 2) {
			b, e := l.Out(n, other)
			if b != nil {
				t.Errorf("%s: Out = %q", name, b)
			}
			errors[fmt.Sprint("Out", n, other)] = e
			errors[fmt.Sprint("Ack", n, other)] = l.Ack(n, other)
			errors[fmt.Sprint("Wait", n, other)] = l.Wait(n, other, 0, 0)
			errors[fmt.Sprint("Wait, n", n, other)] = l.Wait(0, 0, n, other)
		}
		for _, img := range [][]api.Entry{nil, store, noStore} {
			for _, id := range []string{"?", idText(1), long} {
				b, goesOn, e := l.Psync(n, id, "0", img)
				if b != nil || goesOn {
					t.Errorf("%s: Psync = %q, %t", name, b, goesOn)
				}
				errors[fmt.Sprint("Psync", n, brief(id))] = e
			}
		}
		next, acked, ok := l.Link(n)
		if next != 0 || acked != 0 || ok || l.Drop(n) || l.Leave(n) || l.Count(n) != 0 || l.Done(n) != nil {
			t.Errorf("%s: of %d something is told", name, n)
		}
	}
	for call, e := range errors {
		if e != api.ErrNil {
			t.Errorf("%s: %s: %v", name, call, e)
		}
	}
	first, end := l.Window()
	if l.State() != (api.History{}) || first != 0 || end != 0 || l.Links() != nil {
		t.Errorf("%s: %s", name, look(l))
	}
}

func TestALeadThatNobodyMade(t *testing.T) {
	var zero lead.Lead
	for range 2 {
		asksNothing(t, "nil", nil)
		asksNothing(t, "&Lead{}", &lead.Lead{})
		asksNothing(t, "a zero value", &zero)
	}
	none, e := lead.New(0, 1)
	if e != api.ErrRing {
		t.Fatalf("New = %v", e)
	}
	asksNothing(t, "beside an error", none)
}

// A copy would share the links: it is none that New made, and the Lead goes on.
func TestACopy(t *testing.T) {
	p := busy(t)
	before := look(p.lead)
	other := *p.lead
	asksNothing(t, "a copy", &other)
	if look(p.lead) != before {
		t.Errorf("%s, it was %s", look(p.lead), before)
	}
	p.sends(-5, greatest, text(30))
	stillWait(t, p)
}

// Rule 4: what is handed in is neither changed nor kept

func TestFeedKeepsNothing(t *testing.T) {
	for _, size := range []int{1, 10, 1000} {
		p := made(t, size, 1)
		room := []string{"ahead", "SET", "k", "v", "behind"}
		l := [][]string{room[1:4], words("DEL k"), words("none")}
		p.ok(p.lead.Feed(l[:2]...))
		p.ok(p.model.feed([][]string{words("SET k v"), words("DEL k")}))
		if strings.Join(room, " ") != "ahead SET k v behind" || strings.Join(l[1], " ") != "DEL k" || l[2][0] != "none" {
			t.Errorf("what was handed in is %q, %q now", room, l)
		}
		for i := range room {
			room[i] = "?"
		}
		l[0], l[1] = nil, nil
		p.holds()
		b := []byte("ahead" + text(60) + "behind")
		p.ok(p.lead.Raw(b[5:65]))
		p.ok(p.model.raw(text(60)))
		if string(b) != "ahead"+text(60)+"behind" {
			t.Errorf("what was handed in is %q now", b)
		}
		for i := range b {
			b[i] = '?'
		}
		p.holds()
	}
}

// Texts stand in memory that is written into behind the call.
func TestNoTextIsKept(t *testing.T) {
	p := made(t, 100, 1)
	room := []byte("SET" + "kkkkk" + "0000000000000001" + "27")
	in := unsafe.String(unsafe.SliceData(room), len(room))
	p.ok(p.lead.Feed([]string{in[:3], in[3:8]}))
	p.ok(p.model.feed([][]string{words("SET kkkkk")}))
	img := []api.Entry{stay(in[3:8], api.Value{Kind: api.KList, L: []string{in[:3]}})}
	want := []api.Entry{stay("kkkkk", api.Value{Kind: api.KList, L: []string{"SET"}})}
	b, _, e := p.lead.Psync(1, in[8:24], in[24:26], img)
	also, goesOn, wantE := p.model.psync(1, idText(1), "27", want)
	for i := range room {
		room[i] = '?'
	}
	if string(b) != also || goesOn || e != wantE {
		t.Fatalf("Psync = %q, %v, want %q", b, e, also)
	}
	p.holds()
}

func TestPsyncKeepsNoImage(t *testing.T) {
	p := made(t, 100, 1)
	p.ok(p.raw("abc"))
	img := slices.Concat(store, noStore)
	was := fmt.Sprint(img)
	for range 2 {
		b, _, e := p.lead.Psync(1, "?", "-1", img[:len(store)])
		want, _, wantE := p.model.psync(1, "?", "-1", store)
		if string(b) != want || e != wantE || fmt.Sprint(img) != was {
			t.Fatalf("Psync = %q, %v; the image is %v", b, e, img)
		}
		told := bytes.Clone(b)
		list := img[2].V.L
		img[2].V.L, img[0].Key = []string{"?"}, "?"
		if !bytes.Equal(b, told) {
			t.Errorf("what was told is %q now", b)
		}
		for i := range b {
			b[i] = '?'
		}
		img[2].V.L, img[0].Key = list, ""
	}
	p.sends(1, 9, "")
	p.holds()
}

// Rule 4: answers are new memory

// Each answer is written into, its room, too; nothing else changes.
func TestAnswersAreNotKept(t *testing.T) {
	spoil := func(b []byte) {
		b = b[:cap(b)]
		for i := range b {
			b[i] = '?'
		}
	}
	p := busy(t)
	for _, link := range []int{-5, least} {
		for range 4 {
			b, _ := p.lead.Out(link, 7)
			want, _ := p.model.out(link, 7)
			if string(b) != want {
				t.Fatalf("Out = %q, want %q", b, want)
			}
			spoil(b)
			p.holds()
		}
	}
	for _, id := range []string{idText(7), "?"} {
		b, _, _ := p.lead.Psync(3, id, "60", store)
		want, _, _ := p.model.psync(3, id, "60", store)
		if string(b) != want {
			t.Fatalf("Psync = %q, want %q", b, want)
		}
		spoil(b)
		p.holds()
	}
	links := p.lead.Links()
	links = links[:cap(links)]
	for i := range links {
		links[i] = 99
	}
	p.links(least, -5, 3, greatest)
	p.ok(p.wait(12, 0, 0, 0))
	told := p.lead.Done(700)
	if want := p.model.done(700); !slices.Equal(told, want) || len(told) != 2 {
		t.Fatalf("Done = %v, want %v", told, want)
	}
	told = told[:cap(told)]
	for i := range told {
		told[i] = api.Waited{Client: 99, Count: 99}
	}
	p.tells(900, api.Waited{Client: 11, Count: 2})
	p.forgets()
}

// memory is where something lies: where it begins and ends.
type memory struct{ from, to uintptr }

func of[T any](l []T) memory {
	from := uintptr(unsafe.Pointer(unsafe.SliceData(l)))
	return memory{from, from + uintptr(cap(l))*unsafe.Sizeof(*new(T))}
}

func TestAnswersShareNoMemory(t *testing.T) {
	p := busy(t)
	l := p.lead
	var all []memory
	var kept []any
	keep := func(m memory, x any) {
		if m.from != m.to {
			all, kept = append(all, m), append(kept, x)
		}
	}
	for round := range 40 {
		fed := []byte(text(5 + round))
		l.Raw(fed)
		keep(of(fed), fed)
		for _, link := range l.Links() {
			for _, most := range []int{1, 3, 50} {
				b, _ := l.Out(link, most)
				keep(of(b), b)
			}
		}
		for link := range 3 {
			b, _, _ := l.Psync(link, []string{"?", idText(7)}[round%2], fmt.Sprint(l.State().Offset), store)
			keep(of(b), b)
		}
		links := l.Links()
		keep(of(links), links)
		for number := range 5 {
			l.Wait(number, 0, 0, 0)
		}
		told := l.Done(round)
		keep(of(told), told)
	}
	slices.SortFunc(all, func(a, b memory) int { return int(a.from) - int(b.from) })
	for i := range len(all) - 1 {
		if all[i+1].from < all[i].to {
			t.Fatal("two answers, or an answer and what was handed in, lie in one place")
		}
	}
	runtime.KeepAlive(kept)
}

// What is sent holds no more memory than its own: not all that is to be sent yet.
func TestWhatIsSentIsSmall(t *testing.T) {
	p := made(t, 1<<22, 1)
	p.ok(p.lead.Raw(make([]byte, 1<<22)))
	p.lead.Psync(1, idText(1), "0", nil)
	var kept [][]byte
	if n := used(func() {
		for range 40 {
			b, _ := p.lead.Out(1, 10)
			kept = append(kept, b)
		}
	}); n > 1<<20 {
		t.Errorf("forty times ten bytes keep %d", n)
	}
	runtime.KeepAlive(kept)
	runtime.KeepAlive(p)
}

// used is how many bytes more there are behind something.
func used(do func()) int {
	var before, behind runtime.MemStats
	runtime.GC()
	runtime.ReadMemStats(&before)
	do()
	runtime.GC()
	runtime.ReadMemStats(&behind)
	return int(behind.HeapAlloc) - int(before.HeapAlloc)
}

// What is kept is the ring, and who is there.
func TestLittleIsKept(t *testing.T) {
	great := bytes.Repeat([]byte("x"), 1<<22)
	img := ofSize(t, 1<<22)
	for name, do := range map[string]func(*lead.Lead){
		"a great stream in a small ring": func(l *lead.Lead) { l.Raw(great) },
		"great commands":                 func(l *lead.Lead) { l.Feed(slices.Repeat([]string{long}, 60)) },
		"great stores":                   func(l *lead.Lead) { l.Psync(1, "?", "-1", img) },
		"links that come and go": func(l *lead.Lead) {
			for link := range 100000 {
				l.Psync(link, "?", "-1", nil)
				l.Drop(link)
			}
		},
		"clients that come and go": func(l *lead.Lead) {
			for number := range 100000 {
				l.Wait(number, 0, 1, 1+number%2)
				if number%3 == 0 {
					l.Leave(number)
				}
				l.Done(1 + number%7)
			}
		},
	} {
		l, _ := lead.New(1000, 1)
		if n := used(func() { do(l) }); n > 1<<18 {
			t.Errorf("%s: %d bytes are kept", name, n)
		}
		runtime.KeepAlive(l)
	}
	runtime.KeepAlive(great)
	runtime.KeepAlive(img)
}

// Rules 1 and 5: any arguments; the same again

// doneWith is what a row of calls with any arguments answers, drawn by a seed: all that there is to be told.
func doneWith(t *testing.T, seed uint64) string {
	t.Helper()
	m := newMaker(9000 + seed)
	l, _ := lead.New(1+m.IntN(100), 1+m.Uint64N(3))
	var all strings.Builder
	tell := func(x ...any) { all.WriteString(fmt.Sprintln(x...)) }
	number := func() int {
		switch m.IntN(3) {
		case 0:
			return append(ends, api.MaxOffset, api.MaxOffset+1)[m.IntN(len(ends)+2)]
		case 1:
			_, end := l.Window()
			return end - m.IntN(5) + 2
		default:
			return m.IntN(12)
		}
	}
	id := func() uint64 { return []uint64{0, 1, 2, 3, mostID}[m.IntN(5)] }
	for range 150 {
		a, b := number(), number()
		switch m.IntN(11) {
		case 0:
			tell(l.Feed(m.command(), words("DEL k"), make([]string, m.IntN(2000)*m.IntN(2))))
		case 1:
			tell(l.Raw([]byte(text(m.IntN(60)))))
		case 2:
			tell(l.Fork(id()))
		case 3:
			if m.IntN(5) == 0 {
				tell(l.Follow(id(), a))
			}
		case 4, 5:
			tell(l.Psync(a, []string{idText(id()), "?", text(m.IntN(20))}[m.IntN(3)], []string{fmt.Sprint(b), text(m.IntN(9))}[m.IntN(2)], m.image()))
		case 6:
			tell(l.Out(a, b))
		case 7:
			tell(l.Ack(a, b))
		case 8:
			tell(l.Drop(a), l.Leave(b), l.Count(a))
		case 9:
			tell(l.Wait(a, b, number(), number()))
		default:
			tell(l.Done(a))
		}
		tell(look(l))
		if h := l.State(); h.Offset < 0 || h.Offset > api.MaxOffset || len(l.Links()) > api.MaxLinks {
			t.Fatalf("State = %+v, Links = %v", h, l.Links())
		}
	}
	return all.String()
}

func TestAnyArguments(t *testing.T) {
	t.Parallel()
	for seed := range uint64(500) {
		if one, other := doneWith(t, seed), doneWith(t, seed); one != other {
			t.Fatalf("the same calls answer %q and %q", one, other)
		}
	}
}

func TestManyAtOnce(t *testing.T) {
	t.Parallel()
	want := make([]string, 30)
	for seed := range want {
		want[seed] = doneWith(t, uint64(seed))
	}
	var all sync.WaitGroup
	for range 8 {
		all.Go(func() {
			for seed, s := range want {
				if doneWith(t, uint64(seed)) != s {
					t.Error("another answer beside others")
				}
			}
		})
	}
	all.Wait()
}

// Calls that only look may be made at once.
func TestManyLookAtOnce(t *testing.T) {
	p := busy(t)
	want := look(p.lead)
	var all sync.WaitGroup
	for range 8 {
		all.Go(func() {
			for range 200 {
				if look(p.lead) != want {
					t.Error("another answer beside others")
				}
			}
		})
	}
	all.Wait()
}

// Many waiting clients and links, and a great ring, are gone through fast enough to be asked behind each call.
func TestManyCallsOfMany(t *testing.T) {
	l, _ := lead.New(api.MaxRing, 1)
	for link := range api.MaxLinks {
		l.Psync(link, idText(1), "0", nil)
	}
	for number := range api.MaxWaits {
		l.Wait(number, 0, 9, 0)
	}
	for range 1000 {
		l.Feed(words("SET k v"))
		for link := range api.MaxLinks {
			if b, e := l.Out(link, greatest); len(b) != 27 || e != api.OK {
				t.Fatalf("Out = %q, %v", b, e)
			}
		}
		if told := l.Done(5); told != nil {
			t.Fatalf("Done = %v", told)
		}
	}
}
