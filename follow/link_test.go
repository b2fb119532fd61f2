package follow_test

import (
	"strconv"
	"testing"

	"millpond/api"
	"millpond/follow"
	"millpond/reply"
)

// P21.2

func TestUp(t *testing.T) {
	for _, x := range []struct {
		id     uint64
		offset int
		want   string
	}{
		{0, 0, "*3\r\n$5\r\nPSYNC\r\n$1\r\n?\r\n$2\r\n-1\r\n"},
		{0, 1, "*3\r\n$5\r\nPSYNC\r\n$1\r\n?\r\n$2\r\n-1\r\n"},
		{0, api.MaxOffset, "*3\r\n$5\r\nPSYNC\r\n$1\r\n?\r\n$2\r\n-1\r\n"},
		{1, 0, "*3\r\n$5\r\nPSYNC\r\n$16\r\n0000000000000001\r\n$1\r\n0\r\n"},
		{255, 1, "*3\r\n$5\r\nPSYNC\r\n$16\r\n00000000000000ff\r\n$1\r\n1\r\n"},
		{1 << 63, 27, "*3\r\n$5\r\nPSYNC\r\n$16\r\n8000000000000000\r\n$2\r\n27\r\n"},
		{mostID, api.MaxOffset, "*3\r\n$5\r\nPSYNC\r\n$16\r\nffffffffffffffff\r\n$16\r\n1125899906842624\r\n"},
	} {
		f := made(t, conf, 1000)
		if b, e := f.Up(1234, x.id, x.offset); string(b) != x.want || e != api.OK {
			t.Errorf("Up(%d, %d) = %q, %v, want %q", x.id, x.offset, b, e, x.want)
		}
		stands(t, "Up", f, api.FAsking, x.offset, unset)
	}
}

func TestUpAtNoOffset(t *testing.T) {
	for _, id := range []uint64{0, 1, mostID} {
		for _, offset := range []int{least, -2, -1, api.MaxOffset + 1, greatest} {
			f := made(t, conf, 1000)
			if b, e := f.Up(1000, id, offset); b != nil || e != api.ErrArg {
				t.Errorf("Up(%d, %d) = %q, %v", id, offset, b, e)
			}
			stands(t, "Up at no offset", f, api.FIdle, 0, 1000)
		}
	}
}

// A state that is not FIdle is the answer ahead of an offset that may not be.
func TestUpInEachState(t *testing.T) {
	for _, state := range states {
		for _, offset := range []int{-1, 0, 5, api.MaxOffset, api.MaxOffset + 1} {
			f, was := in(t, state)
			b, e := f.Up(2000, 1, offset)
			may := offset >= 0 && offset <= api.MaxOffset
			switch {
			case state != api.FIdle:
				if b != nil || e != api.ErrState {
					t.Errorf("Up(1, %d) in state %d = %q, %v", offset, state, b, e)
				}
				if is, at := f.State(); is != state || at != was {
					t.Errorf("State = %d, %d behind an error, want %d, %d", is, at, state, was)
				}
			case may != (e == api.OK) || !may && (b != nil || e != api.ErrArg):
				t.Errorf("Up(1, %d) = %q, %v", offset, b, e)
			}
		}
	}
}

// What is sent is a command that reply takes, of three bulks.
func TestUpIsACommand(t *testing.T) {
	for id := uint64(1); id != 0; id <<= 1 {
		f := made(t, conf, 0)
		b, _ := f.Up(0, id-1, int(id%(api.MaxOffset+1)))
		r, n, e := reply.Decode(b)
		if e != api.OK || n != len(b) || len(r.L) != 3 || r.L[0].S != "PSYNC" {
			t.Fatalf("Up(%d) = %q: %+v, %v", id-1, b, r, e)
		}
		if id > 1 && (r.L[1].S != hex(id-1) || r.L[2].S != strconv.Itoa(int(id%(api.MaxOffset+1)))) {
			t.Fatalf("Up(%d) = %q", id-1, b)
		}
	}
}

func hex(id uint64) string {
	s := strconv.FormatUint(id, 16)
	return "0000000000000000"[len(s):] + s
}

// ended is a link that ended at 1000 in some state, with some bytes that were not done yet; what its offset is.
type ended struct {
	name   string
	f      *follow.Follow
	offset int
}

// halves are links on which half of something has come.
func halves(t *testing.T) []ended {
	t.Helper()
	l := []ended{}
	add := func(name string, state api.FollowState, s string) {
		f, offset := in(t, state)
		waits(t, name, f, s)
		l = append(l, ended{name, f, offset})
	}
	whole := snap(t, 9, 70, store)
	add("nothing, asked", api.FAsking, "")
	add("half a line", api.FAsking, "+CONTINUE 00000000")
	add("a line without its last byte", api.FAsking, "+CONTINUE 0000000000000001\r")
	add("nothing, loading", api.FLoading, "")
	add("half a $ line", api.FLoading, "$12")
	add("a $ line alone", api.FLoading, "$33\r\n")
	add("half a snapshot", api.FLoading, sized(whole)[:len(whole)/2])
	add("a snapshot without its last byte", api.FLoading, sized(whole)[:len(sized(whole))-1])
	add("nothing, streaming", api.FStreaming, "")
	add("half a command's count", api.FStreaming, "*")
	add("a command's count", api.FStreaming, "*3\r\n")
	add("half a command", api.FStreaming, cmd("SET", "k", "v")[:15])
	add("a command without its last byte", api.FStreaming, cmd("DEL", "k")[:len(cmd("DEL", "k"))-1])
	add("an array that is no command, not whole", api.FStreaming, "*3\r\n:7\r\n*0\r\n")
	return l
}

func TestDown(t *testing.T) {
	for _, x := range halves(t) {
		if e := x.f.Down(1200); e != api.OK {
			t.Fatalf("%s: Down = %v", x.name, e)
		}
		stands(t, x.name, x.f, api.FIdle, x.offset, 1200+conf.Retry)
		if e := x.f.Down(1200); e != api.ErrState {
			t.Fatalf("%s: Down again = %v", x.name, e)
		}
		stands(t, x.name+", again", x.f, api.FIdle, x.offset, 1200+conf.Retry)
	}
	f := made(t, conf, 1000)
	if e := f.Down(1200); e != api.ErrState {
		t.Errorf("Down of a new one = %v", e)
	}
	stands(t, "a new one", f, api.FIdle, 0, 1000)
}

// The offset that stays is that behind the last command, or that of the snapshot.
func TestDownKeepsTheOffset(t *testing.T) {
	f := streaming(t, 40)
	s := cmd("SET", "k", "v")
	takes(t, "two commands and a half", f, 1000, s+s+s[:9], api.Took{Commands: [][]string{{"SET", "k", "v"}, {"SET", "k", "v"}}, Bytes: []byte(s + s)})
	f.Down(1000)
	stands(t, "Down behind commands", f, api.FIdle, 40+2*len(s), 1050)

	f = loading(t, "0000000000000009", 70)
	takes(t, "a snapshot", f, 1000, sized(snap(t, 9, 70, nil)), api.Took{Load: true, H: api.History{ID: 9, Offset: 70}})
	f.Down(1000)
	stands(t, "Down behind a snapshot", f, api.FIdle, 70, 1050)
}

func TestDownNearMaxTime(t *testing.T) {
	for retry, ack := range map[int]int{1: 1 << 20, 50: 7, 1 << 20: 1} {
		for _, ahead := range []int{0, 1, retry - 1, retry, retry + 1} {
			f := made(t, api.FollowConf{Retry: retry, Ack: ack}, 0)
			up(t, f, 0, 1, 5)
			now := api.MaxTime - ahead
			if e := f.Down(now); e != api.OK {
				t.Fatalf("Down(%d) = %v", now, e)
			}
			stands(t, "Down", f, api.FIdle, 5, min(now+retry, api.MaxTime))
		}
	}
}

// beginsAnew holds that nothing is left of what came ahead: a line, a snapshot and a command are taken as on a first link.
func beginsAnew(t *testing.T, name string, f *follow.Follow, now int) {
	t.Helper()
	s := cmd("DEL", "k")
	up(t, f, now, 8, 12)
	stands(t, name, f, api.FAsking, 12, unset)
	takes(t, name, f, now, goesOn("0000000000000008"), api.Took{Continue: true, H: api.History{ID: 8}})
	takes(t, name, f, now, s, api.Took{Commands: [][]string{{"DEL", "k"}}, Bytes: []byte(s)})
	stands(t, name, f, api.FStreaming, 12+len(s), now)
	waits(t, name, f, s[:len(s)-1])
	f.Down(now)

	whole := snap(t, 8, 12, store)
	up(t, f, now, 8, 12)
	takes(t, name, f, now, comesWhole("0000000000000008", 12), api.Took{Empty: true})
	takes(t, name, f, now, sized(whole), api.Took{Load: true, H: api.History{ID: 8, Offset: 12}, Img: store})
	takes(t, name, f, now, s, api.Took{Commands: [][]string{{"DEL", "k"}}, Bytes: []byte(s)})
}

func TestUpBehindDown(t *testing.T) {
	for _, x := range halves(t) {
		x.f.Down(1000)
		beginsAnew(t, x.name, x.f, 1000)
	}
}

func TestUpBehindACut(t *testing.T) {
	for _, state := range states[1:] {
		for _, s := range []string{"-no\r\n", "-no\r\n+CONTINUE 0000000000000001\r\n*1\r\n", "+CONTINUE 000000000000000\r\n+CONT", "$1\r\nx*1\r\n$1\r\n", "*1\r\n:7\r\n*1\r\n$3\r\nDE"} {
			f, offset := in(t, state)
			drops(t, s, f, s, offset)
			beginsAnew(t, s, f, 1000)
		}
	}
}

// What comes when a cut stands behind half a line of the link ahead of it is not put together with that.
func TestHalvesAreNotPutTogether(t *testing.T) {
	for _, x := range halves(t) {
		x.f.Down(1000)
		up(t, x.f, 1000, 8, 12)
		drops(t, x.name, x.f, "0000000\r\n", 12)
	}
}
