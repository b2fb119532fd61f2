package follow_test

import (
	"bytes"
	"math/rand/v2"
	"runtime"
	"slices"
	"strings"
	"sync"
	"testing"
	"unsafe"

	"millpond/api"
	"millpond/follow"
)

// Rule 3: a Follow that is nil, or that New did not make

func asksNothing(t *testing.T, name string, f *follow.Follow) {
	t.Helper()
	for _, now := range []int{least, -1, 0, 1000, api.MaxTime, greatest} {
		for _, offset := range []int{least, -1, 0, 5, api.MaxOffset, greatest} {
			for _, id := range []uint64{0, 1, mostID} {
				if b, e := f.Up(now, id, offset); b != nil || e != api.ErrNil {
					t.Errorf("%s: Up = %q, %v", name, b, e)
				}
			}
		}
		if e := f.Down(now); e != api.ErrNil {
			t.Errorf("%s: Down = %v", name, e)
		}
		for _, b := range []string{"", "x", goesOn("0000000000000001"), cmd("DEL", "k"), "-no\r\n"} {
			if took, e := f.Take(now, []byte(b)); !alike(took, api.Took{}) || e != api.ErrNil {
				t.Errorf("%s: Take(%q) = %+v, %v", name, b, took, e)
			}
		}
		if b, up, e := f.Tick(now); b != nil || up || e != api.ErrNil {
			t.Errorf("%s: Tick = %q, %t, %v", name, b, up, e)
		}
	}
	stands(t, name, f, 0, 0, unset)
}

func TestAFollowThatNobodyMade(t *testing.T) {
	var zero follow.Follow
	for range 2 {
		asksNothing(t, "nil", nil)
		asksNothing(t, "&Follow{}", &follow.Follow{})
		asksNothing(t, "a zero value", &zero)
	}
	none, e := follow.New(api.FollowConf{}, 0)
	if e != api.ErrFollow {
		t.Fatalf("New = %v", e)
	}
	asksNothing(t, "beside an error", none)
}

// A copy would share the bytes that came: it is none that New made, and the Follow goes on.
func TestACopy(t *testing.T) {
	f := streaming(t, 33)
	s := cmd("SET", "k", "v")
	waits(t, "half a command", f, s[:9])
	other := *f
	asksNothing(t, "a copy", &other)
	takes(t, "the other half", f, 1000, s[9:], all([]string{"SET", "k", "v"}))
	stands(t, "it was copied", f, api.FStreaming, 33+len(s), 1000)
}

// Rule 4: what is handed in is neither changed nor kept, and answers are new memory

// Each piece is written into when it was taken, and so is each answer.
func TestNothingIsKept(t *testing.T) {
	for _, s := range links(t) {
		for _, size := range []int{1, 2, 7, 30, 100, 1000} {
			f, told := made(t, conf, 1000), of("", 33)
			up(t, f, 1000, 1, 33)
			for at := 0; at < len(s) && !told.Drop; at += size {
				piece := s[at:min(len(s), at+size)]
				room := []byte("ahead" + piece + "behind")
				next := of(s[:at+len(piece)], 33)
				took, e := f.Take(1000, room[5:5+len(piece)])
				if string(room) != "ahead"+piece+"behind" {
					t.Fatalf("what was handed in is %q now, it was %q", room, piece)
				}
				for i := range room {
					room[i] = '?'
				}
				if want := next.without(told); !alike(took, want) || e != api.OK {
					t.Fatalf("Take(%q) = %+v, %v, want %+v: what was handed in, or another answer, was written into", piece, took, e, want)
				}
				spoil(took)
				told = next
			}
		}
	}
}

// spoil writes into an answer, into the room behind its lists, too.
func spoil(t api.Took) {
	b := t.Bytes[:cap(t.Bytes)]
	for i := range b {
		b[i] = '?'
	}
	for _, args := range t.Commands {
		args = args[:cap(args)]
		for i := range args {
			args[i] = "?"
		}
	}
	for i := range t.Img {
		t.Img[i].Key, t.Img[i].At = "?", 0
		clear(t.Img[i].V.L[:cap(t.Img[i].V.L)])
		clear(t.Img[i].V.H[:cap(t.Img[i].V.H)])
		clear(t.Img[i].V.Z[:cap(t.Img[i].V.Z)])
	}
	commands := t.Commands[:cap(t.Commands)]
	clear(commands)
}

// place is some memory: where it begins and ends.
type place struct{ from, to uintptr }

// places are where an answer lies, lists up to the ends of their rooms. Texts of one byte are left out: all of them lie in one place of the language's own.
func places(t api.Took) []place {
	var all []place
	memory := func(at unsafe.Pointer, n int) {
		if n > 1 {
			all = append(all, place{uintptr(at), uintptr(at) + uintptr(n)})
		}
	}
	text := func(s string) { memory(unsafe.Pointer(unsafe.StringData(s)), len(s)) }
	texts := func(l []string) {
		memory(unsafe.Pointer(unsafe.SliceData(l)), cap(l)*int(unsafe.Sizeof("")))
		for _, s := range l {
			text(s)
		}
	}
	memory(unsafe.Pointer(unsafe.SliceData(t.Bytes)), cap(t.Bytes))
	memory(unsafe.Pointer(unsafe.SliceData(t.Commands)), cap(t.Commands)*int(unsafe.Sizeof([]string{})))
	for _, args := range t.Commands {
		texts(args)
	}
	memory(unsafe.Pointer(unsafe.SliceData(t.Img)), cap(t.Img)*int(unsafe.Sizeof(api.Entry{})))
	for _, e := range t.Img {
		text(e.Key)
		text(e.V.S)
		texts(e.V.L)
		memory(unsafe.Pointer(unsafe.SliceData(e.V.H)), cap(e.V.H)*int(unsafe.Sizeof(api.Field{})))
		memory(unsafe.Pointer(unsafe.SliceData(e.V.Z)), cap(e.V.Z)*int(unsafe.Sizeof(api.Scored{})))
	}
	return all
}

func TestAnswersShareNoMemory(t *testing.T) {
	var told []api.Took
	var given [][]byte
	var memory []place
	bytesOf := func(b []byte) {
		given = append(given, b)
		from := uintptr(unsafe.Pointer(unsafe.SliceData(b)))
		memory = append(memory, place{from, from + uintptr(cap(b))})
	}
	for _, s := range links(t)[:4] {
		for _, size := range []int{40, 150, 10000} {
			f := made(t, conf, 1000)
			b, _ := f.Up(1000, 1, 33)
			again, _ := made(t, conf, 1000).Up(1000, 1, 33)
			bytesOf(b)
			bytesOf(again)
			for rest, drop := s, false; rest != "" && !drop; {
				piece := []byte(rest[:min(len(rest), size)])
				took, _ := f.Take(1000, piece)
				bytesOf(piece)
				told = append(told, took)
				rest, drop = rest[len(piece):], took.Drop
				b, _, _ := f.Tick(1000)
				bytesOf(b)
			}
		}
	}
	for _, took := range told {
		memory = append(memory, places(took)...)
	}
	memory = slices.DeleteFunc(memory, func(p place) bool { return p.from == p.to })
	slices.SortFunc(memory, func(a, b place) int { return int(a.from) - int(b.from) })
	for i := range len(memory) - 1 {
		if memory[i+1].from < memory[i].to {
			t.Fatal("two answers, or an answer and what was handed in, lie in one place")
		}
	}
	runtime.KeepAlive(told)
	runtime.KeepAlive(given)
}

// nil and no bytes are the same: between any others, too.
func TestNilAndEmpty(t *testing.T) {
	s := goesOn("0000000000000005") + cmd("DEL", "k")
	for _, none := range [][]byte{nil, {}} {
		f := asking(t, 1, 33)
		for i := range len(s) {
			took, e := f.Take(1000, none)
			if !alike(took, api.Took{}) || e != api.OK {
				t.Fatalf("Take of nothing = %+v, %v", took, e)
			}
			f.Take(1000, []byte(s[i:i+1]))
		}
		stands(t, "nothing in between", f, api.FStreaming, 33+len(cmd("DEL", "k")), 1000)
	}
}

// What is kept is no more than what was not done yet.
func TestLittleIsKept(t *testing.T) {
	used := func(f func() *follow.Follow) int {
		var before, behind runtime.MemStats
		runtime.GC()
		runtime.ReadMemStats(&before)
		made := f()
		runtime.GC()
		runtime.ReadMemStats(&behind)
		runtime.KeepAlive(made)
		return int(behind.HeapAlloc) - int(before.HeapAlloc)
	}
	commands := []byte(strings.Repeat(cmd("SET", "k", long), 60))
	snapshot := []byte(sized(snap(t, 9, 70, ofSize(t, 1<<22))))
	for name, do := range map[string]func() *follow.Follow{
		"commands": func() *follow.Follow {
			f := streaming(t, 33)
			f.Take(1000, commands)
			return f
		},
		"commands and half a one": func() *follow.Follow {
			f := streaming(t, 33)
			f.Take(1000, commands[:len(commands)-5000])
			f.Take(1000, commands[len(commands)-5000:])
			f.Take(1000, []byte("*3\r\n$3\r\nSET"))
			return f
		},
		"a great Take with half a command at its end": func() *follow.Follow {
			f := streaming(t, 33)
			f.Take(1000, append(bytes.Clone(commands), "*3\r\n$3\r\nSET"...))
			return f
		},
		"a snapshot": func() *follow.Follow {
			f := nine(t)
			f.Take(1000, snapshot)
			return f
		},
		"a snapshot and half a command": func() *follow.Follow {
			f := nine(t)
			f.Take(1000, append(bytes.Clone(snapshot), "*1\r\n"...))
			return f
		},
		"half a snapshot, and Down": func() *follow.Follow {
			f := nine(t)
			f.Take(1000, snapshot[:len(snapshot)/2])
			f.Down(1000)
			return f
		},
		"half a command, and a cut": func() *follow.Follow {
			f := streaming(t, 33)
			f.Take(1000, []byte(strings.TrimSuffix(cmd(slices.Repeat([]string{long}, 60)...), "\n")))
			f.Take(1000, []byte("x"))
			return f
		},
		"a cut ahead of much": func() *follow.Follow {
			f := asking(t, 1, 33)
			f.Take(1000, append([]byte("-no\r\n"), commands...))
			return f
		},
	} {
		if n := used(do); n > 1<<18 {
			t.Errorf("%s: %d bytes are kept", name, n)
		}
	}
	runtime.KeepAlive(commands)
	runtime.KeepAlive(snapshot)
}

// Rules 1 and 5: any arguments; the same again

// doneWith is what a row of calls answers, drawn by a seed: all that there is to be told.
func doneWith(t *testing.T, seed uint64) string {
	t.Helper()
	m := maker{rand.New(rand.NewPCG(21, seed))}
	times := []int{least, -1, 0, 1, api.MaxTime - 1, api.MaxTime, api.MaxTime + 1, greatest}
	f := made(t, conf, 0)
	now := 0
	var all strings.Builder
	tell := func(e api.Errno, l ...string) {
		state, offset := f.State()
		at, set := f.Next()
		if e != api.OK && strings.Join(l, "") != "" {
			t.Fatalf("%q beside %v", l, e)
		}
		if offset < 0 || offset > api.MaxOffset || at < 0 || at > api.MaxTime || !set && at != 0 || set == (state == api.FAsking || state == api.FLoading) {
			t.Fatalf("State = %d, %d, Next = %d, %t", state, offset, at, set)
		}
		all.WriteString(strings.Join(append(l, e.Error(), string(rune('0'+int(state))), ack(offset), ack(at)), ";"))
	}
	for range 60 {
		at := now
		if m.IntN(5) == 0 {
			at = times[m.IntN(len(times))]
		}
		switch m.IntN(8) {
		case 0, 1:
			b, e := f.Up(at, m.Uint64()*m.Uint64N(2), []int{least, -1, 0, 1, api.MaxOffset - 30, api.MaxOffset, api.MaxOffset + 1, greatest}[m.IntN(8)])
			tell(e, string(b))
		case 2:
			b, _, e := f.Tick(at)
			tell(e, string(b))
		case 3:
			tell(f.Down(at))
		default:
			s := m.link(t)
			s = s[m.IntN(len(s)+1)*m.IntN(2):]
			took, e := f.Take(at, []byte(s[:len(s)-m.IntN(len(s)+1)*m.IntN(2)]))
			tell(e, string(took.Bytes), strings.Join(slices.Concat(took.Commands...), " "))
		}
		now += m.IntN(20)
	}
	return all.String()
}

func TestAnyArguments(t *testing.T) {
	t.Parallel()
	for seed := range uint64(3000) {
		if one, other := doneWith(t, seed), doneWith(t, seed); one != other {
			t.Fatalf("the same calls answer %q and %q", one, other)
		}
	}
}

func TestManyAtOnce(t *testing.T) {
	t.Parallel()
	want := make([]string, 40)
	for seed := range want {
		want[seed] = doneWith(t, uint64(seed))
	}
	var all sync.WaitGroup
	for range 8 {
		all.Go(func() {
			for seed, s := range want {
				if doneWith(t, uint64(seed)) != s {
					t.Error("another answer beside others")
				}
			}
		})
	}
	all.Wait()
}
