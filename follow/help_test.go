package follow_test

import (
	"encoding/binary"
	"hash/crc32"
	"math"
	"slices"
	"strconv"
	"strings"
	"testing"

	"millpond/api"
	"millpond/follow"
	"millpond/image"
	"millpond/reply"
	"millpond/snapshot"
)

const (
	least    = math.MinInt
	greatest = math.MaxInt
	mostID   = uint64(math.MaxUint64)
	unset    = -1 // the timer is not set
)

var (
	conf   = api.FollowConf{Retry: 50, Ack: 7}
	states = []api.FollowState{api.FIdle, api.FAsking, api.FLoading, api.FStreaming}
	long   = strings.Repeat("x", api.MaxBulk)
	store  = []api.Entry{
		stay("", api.Value{Kind: api.KString, S: "\x00\r\n\xff"}),
		stay("h", api.Value{Kind: api.KHash, H: []api.Field{{F: "a", V: "b"}, {F: "c"}}}),
		stay("l", api.Value{Kind: api.KList, L: []string{"b", "a"}}),
		{Key: "s", V: api.Value{Kind: api.KSet, L: []string{"", "a"}}, At: 2000},
		{Key: "z", V: api.Value{Kind: api.KZset, Z: []api.Scored{{M: "m", N: -5}}}, At: api.MaxTime},
	}
)

func stay(key string, v api.Value) api.Entry { return api.Entry{Key: key, V: v, At: api.Never} }

// What a primary sends

func goesOn(id string) string { return "+CONTINUE " + id + "\r\n" }

func comesWhole(id string, offset int) string {
	return "+FULLRESYNC " + id + " " + strconv.Itoa(offset) + "\r\n"
}

// sized is a snapshot's bytes behind the line that tells how many they are.
func sized(b string) string { return "$" + strconv.Itoa(len(b)) + "\r\n" + b }

// snap is a snapshot.
func snap(t *testing.T, id uint64, offset int, l []api.Entry) string {
	t.Helper()
	b, e := snapshot.Encode(api.History{ID: id, Offset: offset}, l)
	if e != api.OK {
		t.Fatalf("snapshot.Encode = %v", e)
	}
	return string(b)
}

// sealed are a snapshot's bytes with the right sum of all others.
func sealed(b string) string {
	return string(binary.LittleEndian.AppendUint32([]byte(b), crc32.ChecksumIEEE([]byte(b))))
}

// cmd is a command, whatever its texts are.
func cmd(l ...string) string {
	var b strings.Builder
	b.WriteString("*" + strconv.Itoa(len(l)) + "\r\n")
	for _, s := range l {
		b.WriteString("$" + strconv.Itoa(len(s)) + "\r\n" + s + "\r\n")
	}
	return b.String()
}

// Follows in a state, at the time 1000

func made(t *testing.T, c api.FollowConf, now int) *follow.Follow {
	t.Helper()
	f, e := follow.New(c, now)
	if f == nil || e != api.OK {
		t.Fatalf("New(%+v, %d) = %v, %v", c, now, f, e)
	}
	return f
}

func up(t *testing.T, f *follow.Follow, now int, id uint64, offset int) {
	t.Helper()
	if _, e := f.Up(now, id, offset); e != api.OK {
		t.Fatalf("Up(%d, %d, %d) = %v", now, id, offset, e)
	}
}

func asking(t *testing.T, id uint64, offset int) *follow.Follow {
	t.Helper()
	f := made(t, conf, 1000)
	up(t, f, 1000, id, offset)
	return f
}

func loading(t *testing.T, id string, offset int) *follow.Follow {
	t.Helper()
	f := asking(t, 5, 33)
	takes(t, "a whole store is announced", f, 1000, comesWhole(id, offset), api.Took{Empty: true})
	return f
}

func streaming(t *testing.T, offset int) *follow.Follow {
	t.Helper()
	f := asking(t, 5, offset)
	takes(t, "the stream goes on", f, 1000, goesOn("0000000000000005"), api.Took{Continue: true, H: api.History{ID: 5}})
	return f
}

// in is one in a state, and its offset; nothing has come that is not done.
func in(t *testing.T, state api.FollowState) (*follow.Follow, int) {
	t.Helper()
	switch state {
	case api.FIdle:
		return made(t, conf, 1000), 0
	case api.FAsking:
		return asking(t, 5, 33), 33
	case api.FLoading:
		return loading(t, "0000000000000009", 70), 0
	default:
		return streaming(t, 33), 33
	}
}

// Calls that are held against what must come of them

// alike tells whether two answers are; nil and empty lists are.
func alike(a, b api.Took) bool {
	marks := a.Empty == b.Empty && a.Load == b.Load && a.Continue == b.Continue && a.Drop == b.Drop && a.H == b.H
	return marks && image.Same(a.Img, b.Img) && slices.EqualFunc(a.Commands, b.Commands, slices.Equal) && string(a.Bytes) == string(b.Bytes)
}

// brief is a text's beginning, as much as a line may show.
func brief(s string) string { return strconv.Quote(s[:min(len(s), 300)]) }

// takes holds that Take of bytes answers this.
func takes(t *testing.T, name string, f *follow.Follow, now int, b string, want api.Took) {
	t.Helper()
	if got, e := f.Take(now, []byte(b)); !alike(got, want) || e != api.OK {
		t.Fatalf("%s: Take(%d, %s) = %+v, %v, want %+v", name, now, brief(b), got, e, want)
	}
}

// waits holds that of some bytes nothing comes so far.
func waits(t *testing.T, name string, f *follow.Follow, b string) {
	t.Helper()
	takes(t, name, f, 1000, b, api.Took{})
}

// drops holds that the link is cut by some bytes, at an offset, with nothing done ahead of it.
func drops(t *testing.T, name string, f *follow.Follow, b string, offset int) {
	t.Helper()
	takes(t, name, f, 1000, b, api.Took{Drop: true})
	stands(t, name, f, api.FIdle, offset, 1000+conf.Retry)
}

// stands holds State and Next.
func stands(t *testing.T, name string, f *follow.Follow, state api.FollowState, offset, timer int) {
	t.Helper()
	if is, at := f.State(); is != state || at != offset {
		t.Fatalf("%s: State = %d, %d, want %d, %d", name, is, at, state, offset)
	}
	if at, set := f.Next(); set != (timer != unset) || at != max(timer, 0) {
		t.Fatalf("%s: Next = %d, %t, want %d", name, at, set, timer)
	}
}

// timerOf is when the timer is due, or that it is not set.
func timerOf(f *follow.Follow) int {
	if at, set := f.Next(); set {
		return at
	}
	return unset
}

// The model: what comes of all bytes that came on a link, however they were cut

// outcome is where a link stands, and all that was told of it.
type outcome struct {
	state  api.FollowState
	offset int
	api.Took
}

// of is the outcome of bytes on a link that was begun at an offset.
func of(s string, offset int) outcome {
	o := outcome{state: api.FAsking, offset: offset}
	line, rest, ok := o.line(s)
	if !ok {
		return o
	}
	word, values, _ := strings.Cut(line, " ")
	l := strings.Split(values, " ")
	id, known := idOf(l[0])
	switch {
	case word == "+CONTINUE" && len(l) == 1 && known:
		o.state, o.Continue, o.H = api.FStreaming, true, api.History{ID: id}
		return o.commands(rest)
	case word == "+FULLRESYNC" && len(l) == 2 && known:
		if n, ok := numberOf(l[1], api.MaxOffset); ok {
			o.state, o.offset, o.Empty = api.FLoading, 0, true
			return o.whole(rest, api.History{ID: id, Offset: n})
		}
	}
	return o.cut()
}

func (o outcome) cut() outcome {
	o.state, o.Drop = api.FIdle, true
	return o
}

// line is the first line and what stands behind it, if it is whole; where there can be none, the link is cut.
func (o *outcome) line(s string) (string, string, bool) {
	line, rest, ok := strings.Cut(s, "\r\n")
	if len(line) > 100 && len(s) > 102 {
		*o = o.cut()
		return "", "", false
	}
	return line, rest, ok
}

func (o outcome) whole(s string, h api.History) outcome {
	line, rest, ok := o.line(s)
	if !ok {
		return o
	}
	mark, size := line[:min(1, len(line))], line[min(1, len(line)):]
	n, ok := numberOf(size, api.MaxStore)
	if mark != "$" || !ok {
		return o.cut()
	}
	if len(rest) < n {
		return o
	}
	is, l, e := snapshot.Decode([]byte(rest[:n]))
	if e != api.OK || is.ID != h.ID || is.Offset != h.Offset {
		return o.cut()
	}
	o.state, o.offset, o.Load, o.H, o.Img = api.FStreaming, h.Offset, true, h, l
	return o.commands(rest[n:])
}

func (o outcome) commands(s string) outcome {
	for s != "" {
		r, n, e := reply.Decode([]byte(s))
		switch {
		case s[0] != '*' || e != api.OK && e != api.ErrShort:
			return o.cut()
		case e == api.ErrShort:
			return o
		}
		var args []string
		for _, item := range r.L {
			if item.Kind == api.RBulk {
				args = append(args, item.S)
			}
		}
		if len(args) == 0 || len(args) != len(r.L) || len(args) > 1024 || o.offset+n > 1<<50 {
			return o.cut()
		}
		o.offset += n
		o.Commands, o.Bytes = append(o.Commands, args), append(o.Bytes, s[:n]...)
		s = s[n:]
	}
	return o
}

// without is what was told since another outcome.
func (o outcome) without(was outcome) api.Took {
	t := o.Took
	t.Empty, t.Load, t.Continue = o.Empty && !was.Empty, o.Load && !was.Load, o.Continue && !was.Continue
	if !t.Load && !t.Continue {
		t.H, t.Img = api.History{}, nil
	}
	t.Commands, t.Bytes = o.Commands[len(was.Commands):], o.Bytes[len(was.Bytes):]
	return t
}

func idOf(s string) (uint64, bool) {
	id, e := strconv.ParseUint(s, 16, 64)
	return id, e == nil && id != 0 && len(s) == 16 && !strings.ContainsAny(s, "ABCDEF+-_")
}

func numberOf(s string, most int) (int, bool) {
	n, e := strconv.Atoi(s)
	return n, e == nil && strconv.Itoa(n) == s && n >= 0 && n <= most
}
