package exec_test

import (
	"strings"
	"testing"

	"millpond/api"
	"millpond/exec"
	"millpond/image"
	"millpond/space"
)

// pair is a space of a primary, and another one that the stream alone changes.
type pair struct{ primary, replica *space.Space }

func newPair(t *testing.T, l []api.Entry) pair {
	t.Helper()
	return pair{load(t, l), load(t, l)}
}

// do does a call on the primary, and what it tells on the replica: no error is told of that.
func (x pair) do(t *testing.T, c api.Call) (api.Reply, [][]string) {
	t.Helper()
	r, told := exec.Do(x.primary, c)
	if n, e := exec.Apply(x.replica, told...); n != len(told) || e != api.OK {
		t.Fatalf("Apply of what %s told, %s, = %d, %v", ask(c), wroteTold(told), n, e)
	}
	if _, e := exec.Bytes(told...); e != api.OK {
		t.Fatalf("Bytes of what %s told, %s, = %v", ask(c), wroteTold(told), e)
	}
	return r, told
}

// alike: have both spaces the same entries, in one form?
func (x pair) alike(t *testing.T, done string) {
	t.Helper()
	l := x.primary.Image()
	if e := image.Check(l); e != api.OK {
		t.Fatalf("behind %s the primary has no image: %v", done, e)
	}
	holds(t, "what was told of "+done, x.replica, l)
}

// P18.4: long rows of calls of all commands, with times that go on and that go back: both spaces have the same entries behind each.
func TestTheSame(t *testing.T) {
	t.Parallel()
	m := newMaker(4)
	for i := range 2500 {
		x, now := newPair(t, m.entries()), 0
		for range 30 {
			c := m.by(api.RolePrimary)
			if i%2 == 0 { // the time goes on
				now += m.IntN(3)
				c.Now = now
			}
			x.do(t, c)
			x.alike(t, ask(c))
		}
	}
}

// P18.4: each form of a call on each kind of value, with an end ahead of, at and behind the time.
func TestTheSameOfEachForm(t *testing.T) {
	t.Parallel()
	m := newMaker(5)
	for _, form := range all() {
		for range 300 {
			l, now := m.entries(), 1+m.IntN(23)
			for i := range l {
				if l[i].At != api.Never {
					l[i].At = now - 1 + m.IntN(3)
				}
			}
			x, c := newPair(t, l), api.Call{Role: api.RolePrimary, Now: now, Draw: m.Uint64(), Args: m.args(form)}
			x.do(t, c)
			x.alike(t, ask(c)+" of"+wrote(l))
		}
	}
}

// P18.4: the stream done at once, at the end, makes the same as piece by piece.
func TestTheSameAtOnce(t *testing.T) {
	t.Parallel()
	m := newMaker(6)
	for range 1500 {
		l := m.entries()
		x := newPair(t, l)
		var stream [][]string
		for range 20 {
			_, told := x.do(t, m.by(api.RolePrimary))
			stream = append(stream, told...)
		}
		applies(t, l, stream, len(stream), api.OK, x.primary.Image())
	}
}

// P18.5: calls of a reader change nothing and tell nothing, whatever they are.
func TestReaders(t *testing.T) {
	t.Parallel()
	m := newMaker(7)
	for range 2000 {
		l := m.entries()
		s := load(t, l)
		want := s.Image()
		for range 20 {
			c := m.by(api.RoleReader)
			switch m.IntN(8) {
			case 0:
				c.Args = m.server()
			case 1:
				c.Args = m.strange()
			case 2:
				c.Now = []int{-1, api.MaxTime, api.MaxTime + 1}[m.IntN(3)]
			}
			_, isServers := ofServer[strings.ToLower(c.Args[0])]
			if r, told := exec.Do(s, c); len(told) > 0 || r.Kind == 0 && !isServers {
				t.Fatalf("%s of%s = %s, told %s", ask(c), wrote(l), show(r), wroteTold(told))
			}
			holds(t, ask(c), s, want)
		}
	}
}

// server are arguments of a command of the server.
func (m maker) server() []string {
	return words(m.of("ping", "ping a", "PING a b", "echo a", "echo", "wait 1 0", "replicaof no one", "replconf ack 1", "psync ? -1", "role", "quit", "Quit now"))
}

// strange are arguments of a form, of which some are left out, and others stand between.
func (m maker) strange() []string {
	args := m.any()
	for range 1 + m.IntN(3) {
		b := make([]byte, m.IntN(6))
		for i := range b {
			b[i] = byte(m.IntN(256))
		}
		at := m.IntN(len(args) + 1)
		args = append(args[:at:at], append([]string{string(b)}, args[at:]...)...)
	}
	return args[:1+m.IntN(len(args))]
}

// P18.6: a call whose reply is an error changes nothing but what is over for it, and tells DEL of just that.
func TestErrors(t *testing.T) {
	t.Parallel()
	m, errors, outs := newMaker(8), 0, 0
	for range 120000 {
		l, c := m.entries(), m.by(m.role())
		switch m.IntN(8) {
		case 0:
			c.Args = m.strange()
		case 1:
			c.Now = []int{-1, api.MaxTime, api.MaxTime + 1}[m.IntN(3)]
		}
		s := load(t, l)
		rest := s.Image()
		r, told := exec.Do(s, c)
		if r.Kind != api.RError {
			continue
		}
		errors++
		for _, command := range told {
			e, there := image.Find(rest, command[len(command)-1])
			if len(command) != 2 || command[0] != "DEL" || !there || c.Role != api.RolePrimary || e.At == api.Never || e.At > c.Now {
				t.Fatalf("%s of%s = %s, told %s", ask(c), wrote(l), show(r), wroteTold(told))
			}
			rest, _ = image.Del(rest, e.Key)
			outs++
		}
		holds(t, ask(c)+" of"+wrote(l), s, rest)
	}
	if errors < 10000 || outs < 100 {
		t.Errorf("there were %d errors, by which %d keys were taken out", errors, outs)
	}
}

// What changes nothing tells nothing, and what changes something tells it, by each role but readers.
func TestWhatChangesIsTold(t *testing.T) {
	t.Parallel()
	m := newMaker(9)
	for range 40000 {
		l, c := m.entries(), m.by(m.role())
		s := load(t, l)
		before := s.Image()
		_, told := exec.Do(s, c)
		if after := s.Image(); image.Same(before, after) != (len(told) == 0) {
			t.Fatalf("%s of%s tells %s, and leaves%s", ask(c), wrote(before), wroteTold(told), wrote(after))
		}
	}
}
