package follow_test

import (
	"strconv"
	"strings"
	"testing"

	"millpond/api"
	"millpond/follow"
)

// P21.4

// ticks holds what Tick answers.
func ticks(t *testing.T, name string, f *follow.Follow, now int, b string, up bool) {
	t.Helper()
	if is, wanted, e := f.Tick(now); string(is) != b || wanted != up || e != api.OK {
		t.Fatalf("%s: Tick(%d) = %q, %t, %v, want %q, %t", name, now, is, wanted, e, b, up)
	}
}

// ack is what is sent of an offset.
func ack(offset int) string {
	s := strconv.Itoa(offset)
	return "*3\r\n$8\r\nREPLCONF\r\n$3\r\nACK\r\n$" + strconv.Itoa(len(s)) + "\r\n" + s + "\r\n"
}

func TestTickWithoutALink(t *testing.T) {
	f := made(t, conf, 1000)
	for _, now := range []int{1000, 1050, 1100} {
		for _, early := range []int{now - 50, now - 2, now - 1} {
			if early >= 1000 && now > 1000 {
				ticks(t, "ahead of the timer", f, early, "", false)
				stands(t, "ahead of the timer", f, api.FIdle, 0, now)
			}
		}
		ticks(t, "at the timer", f, now, "", true)
		stands(t, "at the timer", f, api.FIdle, 0, now+50)
	}
	ticks(t, "behind the timer", f, 7000, "", true)
	stands(t, "behind the timer", f, api.FIdle, 0, 7050)
	ticks(t, "again at the same time", f, 7000, "", false)
	stands(t, "again at the same time", f, api.FIdle, 0, 7050)
}

func TestTickWhileTheStreamComes(t *testing.T) {
	f := streaming(t, 40)
	ticks(t, "at the timer", f, 1000, "*3\r\n$8\r\nREPLCONF\r\n$3\r\nACK\r\n$2\r\n40\r\n", false)
	stands(t, "at the timer", f, api.FStreaming, 40, 1007)
	ticks(t, "again", f, 1000, "", false)
	ticks(t, "ahead of the timer", f, 1006, "", false)
	stands(t, "ahead of the timer", f, api.FStreaming, 40, 1007)
	s := cmd("SET", "k", "v")
	takes(t, "a command", f, 1006, s, all([]string{"SET", "k", "v"}))
	stands(t, "a command", f, api.FStreaming, 40+len(s), 1007)
	ticks(t, "at the timer again", f, 1007, ack(40+len(s)), false)
	stands(t, "at the timer again", f, api.FStreaming, 40+len(s), 1014)
	takes(t, "half a command", f, 1010, s[:9], api.Took{})
	ticks(t, "behind the timer", f, 5000, ack(40+len(s)), false)
	stands(t, "behind the timer", f, api.FStreaming, 40+len(s), 5007)
	takes(t, "the other half", f, 5001, s[9:], all([]string{"SET", "k", "v"}))
	ticks(t, "at the timer", f, 5007, ack(40+2*len(s)), false)
	f.Down(5008)
	ticks(t, "ahead of the timer, without a link", f, 5057, "", false)
	ticks(t, "at the timer, without a link", f, 5058, "", true)
	stands(t, "at the timer, without a link", f, api.FIdle, 40+2*len(s), 5108)
}

func TestTickOfEachOffset(t *testing.T) {
	for _, offset := range []int{0, 1, 9, 10, 4095, 1 << 32, api.MaxOffset - 1, api.MaxOffset} {
		f := streaming(t, offset)
		ticks(t, "an offset", f, 1000, ack(offset), false)
		f = loading(t, "0000000000000009", offset)
		takes(t, "a snapshot", f, 1200, sized(snap(t, 9, offset, nil)), api.Took{Load: true, H: api.History{ID: 9, Offset: offset}})
		ticks(t, "a snapshot's offset", f, 1200, ack(offset), false)
		stands(t, "a snapshot's offset", f, api.FStreaming, offset, 1207)
	}
}

// Where the timer is not set nothing is sent, however late it is.
func TestTickWhileNothingIsDue(t *testing.T) {
	for _, state := range []api.FollowState{api.FAsking, api.FLoading} {
		for _, half := range []string{"", "$33"} {
			f, offset := in(t, state)
			waits(t, "half a line", f, half)
			for _, now := range []int{1000, 1001, 1050, 100000, api.MaxTime - 1, api.MaxTime, api.MaxTime} {
				ticks(t, "nothing is due", f, now, "", false)
				stands(t, "nothing is due", f, state, offset, unset)
			}
		}
	}
}

func TestTicksNearMaxTime(t *testing.T) {
	for _, c := range []api.FollowConf{{Retry: 1, Ack: 1 << 20}, {Retry: 50, Ack: 7}, {Retry: 1 << 20, Ack: 1}} {
		for _, ahead := range []int{0, 1, 2, 6, 7, 8, 49, 50, 51, 1<<20 - 1, 1 << 20, 1<<20 + 1} {
			now := api.MaxTime - ahead
			f := made(t, c, 0)
			ticks(t, "without a link", f, now, "", true)
			stands(t, "without a link", f, api.FIdle, 0, min(now+c.Retry, api.MaxTime))
			up(t, f, now, 1, 3)
			takes(t, "the stream goes on", f, now, goesOn("0000000000000001"), api.Took{Continue: true, H: api.History{ID: 1}})
			stands(t, "the stream goes on", f, api.FStreaming, 3, now)
			ticks(t, "the stream comes", f, now, ack(3), false)
			stands(t, "the stream comes", f, api.FStreaming, 3, min(now+c.Ack, api.MaxTime))
			takes(t, "a cut", f, now, "?", api.Took{Drop: true})
			stands(t, "a cut", f, api.FIdle, 3, min(now+c.Retry, api.MaxTime))
			ticks(t, "at the end of all times", f, api.MaxTime, "", true)
			ticks(t, "at the end of all times, again", f, api.MaxTime, "", true)
			stands(t, "at the end of all times", f, api.FIdle, 3, api.MaxTime)
		}
	}
}

// Tick moves the greatest time, also where nothing is due.
func TestTickMovesTheTime(t *testing.T) {
	for _, state := range states {
		f, _ := in(t, state)
		f.Tick(1000)
		f.Tick(1003)
		if b, up, e := f.Tick(1002); b != nil || up || e != api.ErrTime {
			t.Errorf("Tick(1002) in state %d = %q, %t, %v", state, b, up, e)
		}
		if _, _, e := f.Tick(1003); e != api.OK {
			t.Errorf("Tick(1003) in state %d = %v", state, e)
		}
	}
}

// Both settings are held apart, at all ends.
func TestSettings(t *testing.T) {
	for _, retry := range []int{1, 2, 50, 1 << 20} {
		for _, every := range []int{1, 2, 50, 1 << 20} {
			f := made(t, api.FollowConf{Retry: retry, Ack: every}, 10)
			ticks(t, "without a link", f, 10, "", true)
			ticks(t, "without a link", f, 10+retry-1, "", false)
			ticks(t, "without a link", f, 10+retry, "", true)
			now := 10 + retry
			up(t, f, now, 0, 0)
			takes(t, "the stream goes on", f, now, goesOn("0000000000000001"), api.Took{Continue: true, H: api.History{ID: 1}})
			for range 3 {
				ticks(t, "the stream comes", f, now, ack(0), false)
				ticks(t, "the stream comes", f, now+every-1, "", false)
				now += every
			}
		}
	}
}

// A link that comes and goes many times.
func TestRoundAndRound(t *testing.T) {
	f, now, offset := made(t, conf, 0), 0, 0
	one, whole := cmd("DEL", "k"), snap(t, 9, 70, store)
	for round := range 500 {
		timer, _ := f.Next()
		now = max(now, timer)
		ticks(t, "a link is wanted", f, now, "", true)
		up(t, f, now, uint64(round), offset)
		ticks(t, "nothing is due", f, now, "", false)
		switch round % 5 {
		case 0:
			takes(t, "goes on", f, now, goesOn("0000000000000007")+one, api.Took{Continue: true, H: api.History{ID: 7}, Commands: [][]string{{"DEL", "k"}}, Bytes: []byte(one)})
			offset += len(one)
			ticks(t, "goes on", f, now, ack(offset), false)
			f.Down(now)
		case 1:
			takes(t, "is cut", f, now, goesOn("0000000000000007")+one+one[:3]+"?", api.Took{Continue: true, H: api.History{ID: 7}, Commands: [][]string{{"DEL", "k"}}, Bytes: []byte(one), Drop: true})
			offset += len(one)
		case 2:
			takes(t, "comes whole", f, now, comesWhole("0000000000000009", 70)+sized(whole)+one[:5], api.Took{Empty: true, Load: true, H: api.History{ID: 9, Offset: 70}, Img: store})
			offset = 70
			ticks(t, "comes whole", f, now, ack(offset), false)
			takes(t, "goes on", f, now+1, one[5:], all([]string{"DEL", "k"}))
			offset += len(one)
			f.Down(now + 1)
		case 3:
			takes(t, "comes half", f, now, comesWhole("0000000000000009", 70)+sized(whole)[:50], api.Took{Empty: true})
			offset = 0
			f.Down(now)
		case 4:
			takes(t, "says no", f, now, strings.Repeat("-ERR no link\r\n", 9), api.Took{Drop: true})
		}
		if state, at := f.State(); state != api.FIdle || at != offset {
			t.Fatalf("round %d: State = %d, %d, want %d", round, state, at, offset)
		}
	}
}
