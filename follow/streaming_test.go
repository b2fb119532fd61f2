package follow_test

import (
	"slices"
	"strconv"
	"strings"
	"testing"
	"time"

	"millpond/api"
	"millpond/follow"
	"millpond/reply"
)

// P21.3, FStreaming, and P21.6

// all is what must be told of some commands.
func all(l ...[]string) api.Took {
	var b []byte
	for _, args := range l {
		b = append(b, cmd(args...)...)
	}
	return api.Took{Commands: l, Bytes: b}
}

// many are n texts.
func many(n int) []string {
	l := make([]string, n)
	for i := range l {
		l[i] = strconv.Itoa(i)
	}
	return l
}

func TestCommands(t *testing.T) {
	every := make([]byte, 256)
	for i := range every {
		every[i] = byte(i)
	}
	for _, l := range [][][]string{
		{{"SET", "k", "v"}}, {{""}}, {{"", "", ""}}, {{"x"}}, {{"SET", "\x00\r\n\xff\x80", "\r\n*1\r\n$1\r\nx\r\n"}}, {{string(every)}}, {{"*"}, {"$"}, {"+"}},
		{{"SET", "k", "v"}, {"DEL", "k"}, {"FLUSHALL"}}, {{"a"}, {"a"}, {"a"}, {"a"}}, {{"", ""}, {""}, {"", "", "", ""}}, {many(30), {"DEL", "\r\n"}, many(12)},
	} {
		want := all(l...)
		s := string(want.Bytes)
		f := streaming(t, 33)
		takes(t, "at once", f, 1000, s, want)
		stands(t, "at once", f, api.FStreaming, 33+len(s), 1000)
		for n := range len(s) + 1 {
			f := streaming(t, 33)
			one, e := f.Take(1000, []byte(s[:n]))
			first := of(goesOn("0000000000000005")+s[:n], 33)
			if e != api.OK || string(one.Bytes) != string(first.Bytes) || len(one.Commands) != len(first.Commands) {
				t.Fatalf("Take(%q) = %+v, %v, want %+v", s[:n], one, e, first.Took)
			}
			stands(t, "a beginning", f, api.FStreaming, 33+len(one.Bytes), 1000)
			done := len(one.Commands)
			takes(t, "the rest", f, 1900, s[n:], all(l[done:]...))
			stands(t, "the rest", f, api.FStreaming, 33+len(s), 1000)
		}
	}
}

func TestCommandsByteByByte(t *testing.T) {
	l := [][]string{{"SET", "k", "\r\n"}, {""}, many(12), {"DEL", "\x00\xff"}}
	f, at := streaming(t, 0), 0
	for _, args := range l {
		s := cmd(args...)
		for i := range len(s) - 1 {
			waits(t, "byte by byte", f, s[i:i+1])
			stands(t, "byte by byte", f, api.FStreaming, at, 1000)
		}
		takes(t, "byte by byte", f, 1000, s[len(s)-1:], all(args))
		at += len(s)
		stands(t, "byte by byte", f, api.FStreaming, at, 1000)
	}
}

// As many texts as a command may have, and one more; long texts.
func TestTheGreatestCommands(t *testing.T) {
	for _, n := range []int{1, 2, 1023, 1024} {
		s := cmd(many(n)...)
		takes(t, "at once", streaming(t, 33), 1000, s, all(many(n)))
		for cut := 0; cut < len(s); cut += 1 + len(s)/500 {
			f := streaming(t, 33)
			waits(t, "a beginning", f, s[:cut])
			takes(t, "the rest", f, 1000, s[cut:], all(many(n)))
			stands(t, "the rest", f, api.FStreaming, 33+len(s), 1000)
		}
	}
	for _, n := range []int{1025, 1026, 3000} {
		s := cmd(many(n)...)
		drops(t, "too many texts", streaming(t, 33), s, 33)
		f := streaming(t, 33)
		waits(t, "too many texts, not whole", f, s[:len(s)-1])
		stands(t, "too many texts, not whole", f, api.FStreaming, 33, 1000)
		drops(t, "too many texts", f, s[len(s)-1:], 33)
	}
	for _, l := range [][]string{{long}, {long, ""}, {"SET", "k", long}, {long, long, long}, {long[1:], "x"}} {
		s := cmd(l...)
		takes(t, "long texts", streaming(t, 33), 1000, s, all(l))
		f := streaming(t, 33)
		waits(t, "long texts, not whole", f, s[:len(s)-1])
		takes(t, "long texts", f, 1000, s[len(s)-1:], all(l))
	}
	for _, l := range [][]string{{long + "x"}, {"SET", "k", long + "x"}, {strings.Repeat("x", 100000)}} {
		s := cmd(l...)
		drops(t, "a text too long", streaming(t, 33), s, 33)
		f := streaming(t, 33)
		waits(t, "its length, not whole", f, s[:strings.LastIndex(s, "$")+5])
		drops(t, "its length", f, s[strings.LastIndex(s, "$")+5:][:2], 33)
	}
}

// A command of 2^26 bytes of texts, in pieces: it is not gone through again with each of them.
func TestAGreatCommandInPieces(t *testing.T) {
	t.Parallel()
	l := slices.Repeat([]string{long}, api.MaxArgs)
	for _, args := range [][]string{l, append(l, "")} {
		f, s := streaming(t, 33), cmd(args...)
		takes(t, "a small one ahead of it", f, 1000, cmd("DEL", "k"), all([]string{"DEL", "k"}))
		for began := time.Now(); len(s) > 2000; s = s[2000:] {
			waits(t, "a piece", f, s[:2000])
			if time.Since(began) > time.Minute {
				t.Fatalf("%d bytes are left after a minute", len(s))
			}
		}
		if len(args) > api.MaxArgs {
			drops(t, "the rest", f, s, 33+len(cmd("DEL", "k")))
			continue
		}
		takes(t, "the rest", f, 1000, s, all(args))
	}
}

// Other first bytes than * are cut at once, alone or ahead of more, behind commands too.
func TestOtherFirstBytes(t *testing.T) {
	ahead := all([]string{"SET", "k", "v"}, []string{"DEL", "k"})
	for c := range 256 {
		if c == '*' {
			continue
		}
		for _, more := range []string{"", "1\r\n$1\r\nx\r\n", "*1\r\n$1\r\nx\r\n", "\r\n"} {
			s := string([]byte{byte(c)}) + more
			drops(t, "another first byte", streaming(t, 33), s, 33)
			f, want := streaming(t, 33), ahead
			want.Drop = true
			takes(t, "behind commands", f, 1000, string(ahead.Bytes)+s, want)
			stands(t, "behind commands", f, api.FIdle, 33+len(ahead.Bytes), 1050)
			f = streaming(t, 33)
			takes(t, "commands", f, 1000, string(ahead.Bytes), ahead)
			drops(t, "a Take later", f, s, 33+len(ahead.Bytes))
		}
	}
}

// cutWhere holds that bytes cut the link just where the model tells it, behind commands, too, however they are cut in two.
func cutWhere(t *testing.T, s string) {
	t.Helper()
	line, where := goesOn("0000000000000005"), 0
	for ; !of(line+s[:where], 33).Drop; where++ {
		if where == len(s) {
			t.Fatalf("%s does not cut", brief(s))
		}
	}
	drops(t, brief(s), streaming(t, 33), s, 33)
	for n := range where {
		f := streaming(t, 33)
		waits(t, brief(s), f, s[:n])
		stands(t, brief(s), f, api.FStreaming, 33, 1000)
		drops(t, brief(s), f, s[n:where], 33)
	}
	ahead := all([]string{"DEL", "k"}, []string{""})
	want := ahead
	want.Drop = true
	f := streaming(t, 33)
	takes(t, "behind commands", f, 1000, string(ahead.Bytes)+s, want)
	stands(t, "behind commands", f, api.FIdle, 33+len(ahead.Bytes), 1050)
}

// Replies that are whole and no commands.
func TestWholeRepliesThatAreNoCommands(t *testing.T) {
	for _, s := range []string{
		"*0\r\n", "*-1\r\n", "*1\r\n:7\r\n", "*1\r\n$-1\r\n", "*1\r\n+OK\r\n", "*1\r\n-ERR\r\n", "*1\r\n*0\r\n", "*1\r\n*-1\r\n", "*1\r\n*1\r\n$1\r\nx\r\n",
		"*2\r\n$3\r\nDEL\r\n:7\r\n", "*2\r\n:7\r\n$3\r\nDEL\r\n", "*2\r\n$3\r\nDEL\r\n$-1\r\n", "*2\r\n$-1\r\n$3\r\nDEL\r\n", "*2\r\n$3\r\nDEL\r\n+k\r\n", "*2\r\n+DEL\r\n$1\r\nk\r\n", "*3\r\n$3\r\nSET\r\n-k\r\n$1\r\nv\r\n",
		"*2\r\n$3\r\nDEL\r\n*1\r\n$1\r\nk\r\n", "*2\r\n*1\r\n$1\r\nk\r\n$3\r\nDEL\r\n", "*3\r\n$3\r\nDEL\r\n*2\r\n$1\r\nk\r\n:5\r\n$1\r\nx\r\n", "*2\r\n$3\r\nDEL\r\n*-1\r\n", "*3\r\n*0\r\n*-1\r\n$1\r\nx\r\n",
		strings.Repeat("*1\r\n", 8) + "$1\r\nx\r\n", strings.Repeat("*1\r\n", 8) + "*-1\r\n", strings.Repeat("*2\r\n$1\r\nx\r\n", 8) + "$1\r\nx\r\n", "*2\r\n" + strings.Repeat("*1\r\n", 7) + ":0\r\n$1\r\nx\r\n",
	} {
		r, n, e := reply.Decode([]byte(s))
		if e != api.OK || n != len(s) {
			t.Fatalf("reply.Decode(%q) = %+v, %d, %v", s, r, n, e)
		}
		cutWhere(t, s)
		cutWhere(t, s+cmd("DEL", "k"))
		f := streaming(t, 33)
		waits(t, "not whole", f, s[:len(s)-1])
		drops(t, "whole", f, s[len(s)-1:], 33)
	}
}

// What is no reply is cut at its first byte that is wrong.
func TestNoReplies(t *testing.T) {
	for _, s := range []string{
		"**", "*x", "* 1\r\n", "*01\r\n", "*00", "*-0", "*-2\r\n", "*+1\r\n", "*1 \r\n", "*1x", "*\r\n", "*\n", "*1\n", "*1\rx", "*1\r\r\n", "*131073\r\n", "*1310720\r\n", "*9223372036854775808\r\n", "*1.0\r\n",
		"*1\r\nx", "*1\r\n\r\n", "*1\r\n?1\r\n", "*1\r\n$x", "*1\r\n$01\r\n", "*1\r\n$-2\r\n", "*1\r\n$-0", "*1\r\n$65537\r\n", "*1\r\n$\r\n", "*1\r\n$1\n", "*1\r\n$1\rx", "*1\r\n$1\r\nxy", "*1\r\n$1\r\nx\n", "*1\r\n$1\r\nx\rx", "*1\r\n$0\r\nx",
		"*2\r\n$1\r\nx\r\nx", "*2\r\n$1\r\nx\r\n$x", "*2\r\n$1\r\nx\r\n$1\r\nxx", "*2\r\n$1\r\nx\r\n\r\n", "*3\r\n$1\r\nx\r\n$0\r\n\r\n/", "*2\r\n:x", "*2\r\n:01", "*2\r\n+a\nb", "*2\r\n-a\r\rb", "*2\r\n:7\r\nx", "*3\r\n:7\r\n$1\r\nx\r\nx",
		"*2\r\n$1\r\nx\r\n*x", "*2\r\n$1\r\nx\r\n*1\r\nx", "*2\r\n$1\r\nx\r\n*131073", "*1\r\n+" + long + "x", "*" + strings.Repeat("1", 200), "*1" + strings.Repeat("\r", 102), "*" + strings.Repeat(" ", 101) + "\r\n",
		strings.Repeat("*1\r\n", 9), strings.Repeat("*1\r\n", 8) + "*0\r\n", strings.Repeat("*1\r\n", 8) + "*1\r\n$1\r\nx\r\n", strings.Repeat("*2\r\n$1\r\nx\r\n", 8) + "*1\r\n", "*2\r\n*0\r\n" + strings.Repeat("*1\r\n", 8), "*2\r\n$0\r\n\r\n" + strings.Repeat("*1\r\n", 8),
	} {
		if len(s) > 1000 {
			drops(t, "a long line", streaming(t, 33), s, 33)
			continue
		}
		cutWhere(t, s)
		cutWhere(t, s+strings.Repeat("x", 120))
	}
}

// Each byte of a command each other one: what comes of it, at once and byte by byte.
func TestEachByteOfACommand(t *testing.T) {
	t.Parallel()
	s := cmd("SET", "k", "12345678901", "")
	for i := range s {
		for c := range 256 {
			b := s[:i] + string([]byte{byte(c)}) + s[i+1:] + cmd("DEL")
			for _, size := range []int{1, 7, len(b)} {
				g := begun(t, 33)
				g.takesAll(goesOn("0000000000000005"))
				for at := 0; at < len(b) && !g.told.Drop; at += size {
					g.takesAll(b[at:min(len(b), at+size)])
				}
			}
		}
	}
}

// The offset may be MaxOffset, and no more.
func TestOffsetsUpToTheGreatest(t *testing.T) {
	one := cmd("DEL", "k")
	for _, room := range []int{0, 1, len(one) - 1, len(one), len(one) + 1, 2*len(one) - 1, 2 * len(one), 2*len(one) + 1} {
		for _, n := range []int{1, 2, 3} {
			begin := api.MaxOffset - room
			done := min(n, room/len(one))
			want := all(slices.Repeat([][]string{{"DEL", "k"}}, done)...)
			state, timer := api.FStreaming, 1000
			if done < n {
				want.Drop, state, timer = true, api.FIdle, 1050
			}
			f := streaming(t, begin)
			takes(t, "at once", f, 1000, strings.Repeat(one, n), want)
			stands(t, "at once", f, state, begin+done*len(one), timer)

			f = streaming(t, begin)
			for range done {
				takes(t, "one by one", f, 1000, one, all([]string{"DEL", "k"}))
			}
			if done == n {
				continue
			}
			waits(t, "not whole", f, one[:len(one)-1])
			stands(t, "not whole", f, api.FStreaming, begin+done*len(one), 1000)
			drops(t, "beyond the greatest", f, one[len(one)-1:], begin+done*len(one))
		}
	}
	f := loading(t, "0000000000000009", api.MaxOffset)
	h := api.History{ID: 9, Offset: api.MaxOffset}
	takes(t, "a snapshot at the greatest, and a command", f, 1000, sized(snap(t, 9, api.MaxOffset, store))+one, api.Took{Load: true, H: h, Img: store, Drop: true})
	stands(t, "a snapshot at the greatest, and a command", f, api.FIdle, api.MaxOffset, 1050)
}

// Nothing comes of nothing.
func TestTakeOfNoBytes(t *testing.T) {
	for _, b := range [][]byte{nil, {}} {
		for _, state := range states[1:] {
			f, offset := in(t, state)
			timer := timerOf(f)
			if took, e := f.Take(1700, b); !alike(took, api.Took{}) || e != api.OK {
				t.Errorf("Take of nothing in state %d = %+v, %v", state, took, e)
			}
			stands(t, "Take of nothing", f, state, offset, timer)
		}
		for _, x := range halves(t) {
			state, _ := x.f.State()
			timer := timerOf(x.f)
			takes(t, x.name, x.f, 1700, string(b), api.Took{})
			stands(t, x.name, x.f, state, x.offset, timer)
		}
	}
}

// keepsNothing holds that what is taken where there is no link is an error, and is not there when there is one again.
func keepsNothing(t *testing.T, name string, f *follow.Follow, offset, timer int) {
	t.Helper()
	for _, s := range []string{"", "+CONT", goesOn("0000000000000005"), "?", cmd("DEL", "k")} {
		if took, e := f.Take(1000, []byte(s)); !alike(took, api.Took{}) || e != api.ErrState {
			t.Fatalf("%s: Take(%q) = %+v, %v", name, s, took, e)
		}
		stands(t, name, f, api.FIdle, offset, timer)
	}
	beginsAnew(t, name, f, 1000)
}

func TestTakeWithoutALink(t *testing.T) {
	keepsNothing(t, "a new one", made(t, conf, 1000), 0, 1000)
	for _, x := range halves(t) {
		x.f.Down(1000)
		keepsNothing(t, x.name+", and Down", x.f, x.offset, 1050)
	}
	for _, state := range states[1:] {
		f, offset := in(t, state)
		drops(t, "a cut", f, "?\r\n", offset)
		keepsNothing(t, "behind a cut", f, offset, 1050)
	}
}
