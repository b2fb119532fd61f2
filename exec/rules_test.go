package exec_test

import (
	"math"
	"slices"
	"strconv"
	"strings"
	"testing"
	"unsafe"

	"millpond/api"
	"millpond/exec"
	"millpond/image"
	"millpond/space"
)

// Rule 4: nothing that is handed in is changed or kept, and what is told is new memory

// anyCall is a call of any form, or of the server's commands.
func (m maker) anyCall() api.Call {
	c := m.by(m.role())
	if m.IntN(8) == 0 {
		c.Args = m.server()
	}
	return c
}

// spoil writes over all that a call told.
func spoil(r api.Reply, told [][]string) {
	l := r.L[:cap(r.L)]
	for i := range l {
		l[i] = api.Reply{Kind: api.RBulk, S: "spoilt"}
	}
	for _, command := range told {
		command = command[:cap(command)]
		for i := range command {
			command[i] = "spoilt"
		}
	}
	told = told[:cap(told)]
	for i := range told {
		told[i] = []string{"spoilt"}
	}
}

// Two spaces with the same entries, on one of which the calls' arguments and all that is told are spoilt: nothing else changes.
func TestWhatIsToldSharesNoList(t *testing.T) {
	t.Parallel()
	m := newMaker(12)
	for range 600 {
		l := m.entries()
		one, other := load(t, l), load(t, l)
		for range 20 {
			c := m.anyCall()
			want, wantTold := exec.Do(other, c)
			args := append(slices.Clone(c.Args), "behind")
			was := slices.Clone(args)
			c.Args = args[:len(args)-1]
			r, told := exec.Do(one, c)
			if !slices.Equal(args, was) {
				t.Fatalf("%q were handed in, and are %q now", was, args)
			}
			for i := range args {
				args[i] = "spoilt"
			}
			if show(r) != show(want) || !sameTold(told, wantTold) {
				t.Fatalf("%q = %s, told %s; want %s, told %s", was, show(r), wroteTold(told), show(want), wroteTold(wantTold))
			}
			for i := range told { // no two lists of one answer share any
				for j := range told[i] {
					told[i][j] = "spoilt"
				}
				if !sameTold(told[i+1:], wantTold[i+1:]) || show(r) != show(want) {
					t.Fatalf("%q: what is told shares memory", was)
				}
			}
			spoil(r, told)
			holds(t, "a call whose answers are spoilt", one, other.Image())
		}
	}
}

// inMemory are rows of texts that lie in some memory, one behind the other.
func inMemory(memory []byte, l [][]string) [][]string {
	text, from := unsafe.String(unsafe.SliceData(memory), len(memory)), 0
	own := make([][]string, len(l))
	for i, args := range l {
		own[i] = make([]string, len(args))
		for j, a := range args {
			copy(memory[from:], a)
			own[i][j] = text[from : from+len(a)]
			from += len(a)
		}
	}
	return own
}

// Texts lie in memory of their own, too: what was handed in changes, and nothing else does.
func TestTextsAreNeitherKeptNorShared(t *testing.T) {
	t.Parallel()
	m := newMaker(13)
	memory := make([]byte, 1<<12)
	for range 12000 {
		l, c := m.entries(), m.anyCall()
		want := load(t, l)
		wantReply, wantTold := exec.Do(want, c)
		s := load(t, l)
		r, told := exec.Do(s, api.Call{Role: c.Role, Now: c.Now, Draw: c.Draw, Args: inMemory(memory, [][]string{c.Args})[0]})
		for i := range memory {
			memory[i] = '!'
		}
		if show(r) != show(wantReply) || !sameTold(told, wantTold) {
			t.Fatalf("%s told %s, %s when its arguments' texts change", ask(c), show(r), wroteTold(told))
		}
		holds(t, "a call whose texts change", s, want.Image())
	}
}

// The same of streams: what is handed in to Apply and Bytes stays as it is, and nothing of it is kept.
func TestStreamsAreNeitherKeptNorChanged(t *testing.T) {
	t.Parallel()
	m := newMaker(14)
	memory := make([]byte, 1<<12)
	for range 6000 {
		l := m.entries()
		var stream [][]string
		for range m.IntN(5) {
			stream = append(stream, m.any())
		}
		want := load(t, l)
		n, e := exec.Apply(want, stream...)
		wantBytes, _ := exec.Bytes(stream...)
		own := inMemory(memory, stream)
		rows := slices.Clone(own)
		s := load(t, l)
		gotN, gotE := exec.Apply(s, own...)
		b, _ := exec.Bytes(own...)
		if gotN != n || gotE != e || !sameTold(own, stream) || !sameTold(rows, stream) {
			t.Fatalf("Apply of %s = %d, %v, then %d, %v", wroteTold(stream), n, e, gotN, gotE)
		}
		for i := range memory {
			memory[i] = '!'
		}
		for i := range rows {
			for j := range rows[i] {
				rows[i][j] = "spoilt"
			}
			own[i] = nil
		}
		if string(b) != string(wantBytes) {
			t.Fatalf("Bytes of %s are %q when its texts change", wroteTold(stream), b)
		}
		holds(t, "Apply of a stream that is spoilt", s, want.Image())
	}
}

// Bytes of one call share nothing with those of another one.
func TestBytesShareNothing(t *testing.T) {
	stream := told("SET k v | DEL k")
	one, _ := exec.Bytes(stream...)
	want := string(one)
	other, _ := exec.Bytes(stream...)
	for i := range other[:cap(other)] {
		other[:cap(other)][i] = '!'
	}
	again, _ := exec.Bytes(stream...)
	if string(one) != want || string(again) != want {
		t.Errorf("Bytes = %q, then %q", one, again)
	}
}

// No text of an answer lies where one of another answer does.
func TestTextsOfAnswersShareNothing(t *testing.T) {
	seen := map[*byte]string{}
	see := func(from string, texts ...string) {
		for _, x := range texts {
			if len(x) < 2 { // Go itself lays texts of one byte in one place
				continue
			}
			if other, there := seen[unsafe.StringData(x)]; there {
				t.Errorf("%s tells %q, which lies where something of %s does", from, x, other)
			}
			seen[unsafe.StringData(x)] = from
		}
	}
	s := load(t, entries("key=value list:list over=other@9"))
	for range 2 {
		for _, text := range []string{
			"PING", "PING", "ping hello", "ping hello", "ping a b", "ping a b", "ECHO hello", "ECHO hello", "echo", "echo", "nothing", "nothing", "get", "get", "get key", "get key", "set key value", "set key value", "set key other nx", "append key value", "mget key key list", "lrange list 0 -1", "keys *", "keys *", "type key", "type key", "get list", "get list", "rename none key", "set key", "wait one two", "psync none some",
		} {
			for _, role := range []api.Role{api.RolePrimary, api.RoleReader, api.RoleStream} {
				args := words(strings.Clone(text))
				see("the arguments of "+text, args...)
				for _, now := range []int{10, -10} {
					r, told := exec.Do(s, api.Call{Role: role, Now: now, Args: args})
					see("the reply of "+text, r.S)
					for _, one := range r.L {
						see("the reply of "+text, one.S)
					}
					for _, command := range told {
						if command[0] == "DEL" { // the space may have told it: its word is the space's own
							command = command[1:]
						}
						see("what "+text+" tells", command...)
					}
				}
			}
		}
	}
}

// nil and empty lists are the same.
func TestNilAndEmptyLists(t *testing.T) {
	s := load(t, entries("k=v"))
	for _, args := range [][]string{nil, {}} {
		answers(t, s, api.Call{Role: api.RolePrimary, Args: args}, "-ERR unknown command ''")
		if n, e := exec.Apply(s, args); n != 0 || e != api.ErrStream {
			t.Errorf("Apply of a row without texts = %d, %v", n, e)
		}
	}
	for _, stream := range [][][]string{nil, {}} {
		n, e := exec.Apply(s, stream...)
		b, wrong := exec.Bytes(stream...)
		if n != 0 || e != api.OK || len(b) != 0 || wrong != api.OK {
			t.Errorf("Apply and Bytes of no commands = %d, %v, %q, %v", n, e, b, wrong)
		}
	}
}

// Rule 5: the same again, whatever was done ahead elsewhere, on several spaces at once.
func TestTheSameAgain(t *testing.T) {
	run := func() string {
		var b strings.Builder
		m := newMaker(15)
		for range 40 {
			s, other := space.New(), space.New()
			for range 60 {
				r, told := exec.Do(s, m.anyCall())
				n, e := exec.Apply(other, told...)
				stream, _ := exec.Bytes(told...)
				b.WriteString(show(r) + " " + wroteTold(told) + strconv.Itoa(n) + e.Error() + string(stream) + "\n")
			}
			b.WriteString(wrote(s.Image()) + wrote(other.Image()) + "\n")
		}
		return b.String()
	}
	want, done := run(), make(chan string)
	for range 4 {
		go func() { done <- run() }()
	}
	for range 4 {
		if <-done != want {
			t.Error("the same calls answer otherwise")
		}
	}
}

// Draws play no part, but in SPOP, SRANDMEMBER and RANDOMKEY; in a stream none at all.
func TestDraws(t *testing.T) {
	t.Parallel()
	m := newMaker(16)
	for range 20000 {
		l, c := m.entries(), m.by(m.role())
		switch strings.ToLower(c.Args[0]) {
		case "spop", "srandmember", "randomkey":
			continue
		}
		one, other := load(t, l), load(t, l)
		r, told := exec.Do(one, c)
		c.Draw = math.MaxUint64 - c.Draw
		again, toldAgain := exec.Do(other, c)
		if show(r) != show(again) || !sameTold(told, toldAgain) {
			t.Fatalf("%s of%s = %s, then %s", ask(c), wrote(l), show(r), show(again))
		}
		holds(t, ask(c), other, one.Image())
	}
}

// P18.2: each command of any stream is done as Do does it by RoleStream, at 0, with the draw 0, up to the first that may not stand there.
func TestApplyOfAnyStreams(t *testing.T) {
	t.Parallel()
	m := newMaker(17)
	ended := map[api.Errno]int{}
	for range 20000 {
		l := m.entries()
		var stream [][]string
		for range m.IntN(6) {
			args := m.any()
			for its := commands()[strings.ToLower(args[0])]; !its.writes && m.IntN(4) > 0; its = commands()[strings.ToLower(args[0])] {
				args = m.any()
			}
			if m.IntN(20) == 0 {
				args = m.strange()
			}
			stream = append(stream, args)
		}
		s := load(t, l)
		want, wrong := 0, api.OK
		for _, args := range stream {
			its := commands()[modelLower(args[0])]
			if !its.writes {
				wrong = api.ErrStream
				break
			}
			before := s.Image()
			r, _ := its.do(s, api.Call{Role: api.RoleStream, Args: args})
			if r.Kind == api.RError || r.Kind == 0 {
				holds(t, "an error", s, before)
				wrong = api.ErrStream
				break
			}
			want++
		}
		ended[wrong]++
		applies(t, l, stream, want, wrong, s.Image())
	}
	if ended[api.OK] < 1000 || ended[api.ErrStream] < 1000 {
		t.Errorf("streams ended so: %v", ended)
	}
}

// modelLower is a text with small letters, of A to Z alone.
func modelLower(s string) string {
	b := []byte(s)
	for i := range b {
		if b[i] >= 'A' && b[i] <= 'Z' {
			b[i] += 'a' - 'A'
		}
	}
	return string(b)
}

// Rule 1: calls end, and none panics, whatever is handed in; what is left is an image.
func TestAnyArguments(t *testing.T) {
	t.Parallel()
	m := newMaker(18)
	for range 30000 {
		args := m.strange()
		if m.IntN(8) == 0 {
			args = append(m.server(), args[1:]...)
		}
		c := api.Call{Role: m.role(), Now: m.IntN(25) - 1, Draw: m.Uint64(), Args: args}
		s := load(t, m.entries())
		for _, one := range []*space.Space{nil, new(space.Space), s} {
			r, _ := exec.Do(one, c)
			exec.Apply(one, args, args)
			exec.Bytes(args, nil)
			if one != s && r.Kind != 0 {
				t.Fatalf("%s without a space = %s", ask(c), show(r))
			}
		}
		if e := image.Check(s.Image()); e != api.OK {
			t.Fatalf("%s leaves what is no image: %v", ask(c), e)
		}
	}
}
