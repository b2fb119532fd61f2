package hashes_test

import (
	"math"
	"math/rand/v2"
	"slices"
	"strconv"
	"strings"
	"testing"
	"unsafe"

	"millpond/api"
	"millpond/hashes"
	"millpond/image"
	"millpond/space"
)

// maker makes calls and entries of all sorts, the same ones at each run.
type maker struct{ *rand.Rand }

func newMaker(seed uint64) maker { return maker{rand.New(rand.NewPCG(seed, 16))} }

func (m maker) of(l ...string) string { return l[m.IntN(len(l))] }

func (m maker) key() string { return m.of("a", "b", "c", "", "\xff") }

func (m maker) text() string { return m.of("", "1", "7", "a", "ab", "b", "-3", "x") }

func (m maker) number() string {
	return m.of("0", "1", "2", "-1", "-3", "7", "-7", "0", "x", "01", "", "-9223372036854775808", "9223372036854775807")
}

// many are one or more of some texts.
func (m maker) many(most int, one func() string) []string {
	l := []string{one()}
	for range m.IntN(most) {
		l = append(l, one())
	}
	return l
}

// pairs are one or more fields, each with what it is to have; one of many has nothing behind its last field.
func (m maker) pairs() []string {
	var l []string
	for range 1 + m.IntN(4) {
		l = append(l, m.text(), m.of(m.number(), m.text()))
	}
	if m.IntN(9) == 0 {
		l = append(l, m.text())
	}
	return l
}

func (m maker) args() []string {
	switch m.IntN(10) {
	case 0, 1, 2:
		return append([]string{"hset", m.key()}, m.pairs()...)
	case 3:
		return []string{"hsetnx", m.key(), m.text(), m.number()}
	case 4:
		return append([]string{"hdel", m.key()}, m.many(4, m.text)...)
	case 5:
		return []string{m.of("hget", "hexists", "hstrlen"), m.key(), m.text()}
	case 6:
		return append([]string{"hmget", m.key()}, m.many(4, m.text)...)
	case 7:
		return []string{m.of("hlen", "hkeys", "hvals", "hgetall"), m.key()}
	}
	return []string{"hincrby", m.key(), m.text(), m.number()}
}

// calls are some calls, the times of which rise, fall and go back again.
func (m maker) call() api.Call {
	return api.Call{Role: roles[m.IntN(len(roles))], Now: m.IntN(25), Draw: m.Uint64(), Args: m.args()}
}

func (m maker) entries() []api.Entry {
	var l []api.Entry
	for _, key := range []string{"", "a", "b", "c", "\xff"} {
		v := api.Value{Kind: api.KHash}
		names := m.many(5, m.text)
		slices.Sort(names)
		for _, name := range slices.Compact(names) {
			v.H = append(v.H, api.Field{F: name, V: m.of(m.text(), m.number())})
		}
		e := stay(key, v)
		if m.IntN(6) == 0 {
			e.V = values[m.of("str", "list", "set", "zset")]
		}
		if m.IntN(2) == 0 {
			e.At = m.IntN(25)
		}
		if m.IntN(4) > 0 {
			l = append(l, e)
		}
	}
	return l
}

// P16.1, P16.2: long rows of calls, each held against the model; what is told, done by the stream, makes the same of another space.
func TestRowsOfCalls(t *testing.T) {
	t.Parallel()
	m := newMaker(1)
	for range 1500 {
		x := newTrio(t, m.entries())
		for range 30 {
			c := m.call()
			if c.Role == api.RoleReader {
				c.Role = api.RolePrimary
			}
			x.do(t, c)
		}
	}
	for range 10000 { // by readers, too
		newTrio(t, m.entries()).do(t, m.call())
	}
}

// outOf are the keys that were taken out by looking: those of DEL.
func outOf(told [][]string) []string {
	var keys []string
	for _, command := range told {
		if command[0] == "DEL" {
			keys = append(keys, command[1])
		}
	}
	return keys
}

// P16.3: what only reads, and an error, changes nothing but what looking takes out, which is over; and what changes nothing tells nothing.
func TestWhatChangesNothing(t *testing.T) {
	t.Parallel()
	m := newMaker(2)
	reads := []string{"hget", "hmget", "hexists", "hlen", "hkeys", "hvals", "hgetall", "hstrlen"}
	for range 60000 {
		s, c := load(t, m.entries()), m.call()
		before := s.Image()
		r, told := hashes.Do(s, c)
		after := s.Image()
		if image.Same(before, after) != (len(told) == 0) {
			t.Fatalf("%s of%s tells %s, and leaves%s", ask(c), wrote(before), wroteTold(told), wrote(after))
		}
		if !slices.Contains(reads, c.Args[0]) && r.Kind != api.RError {
			continue
		}
		rest := before
		for _, key := range outOf(told) {
			e, there := image.Find(rest, key)
			if !there || c.Role != api.RolePrimary || e.At == api.Never || e.At > c.Now {
				t.Fatalf("%s of%s takes out %q", ask(c), wrote(before), key)
			}
			rest, _ = image.Del(rest, key)
		}
		if !image.Same(rest, after) || len(told) != len(outOf(told)) {
			t.Fatalf("%s of%s = %s, told %s, leaves%s", ask(c), wrote(before), show(r), wroteTold(told), wrote(after))
		}
	}
}

// Only the key that is named changes, and what is there is an image still.
func TestOnlyTheNamedKeyChanges(t *testing.T) {
	m := newMaker(8)
	for range 20000 {
		l, c := m.entries(), m.call()
		s := load(t, l)
		before := s.Image()
		hashes.Do(s, c)
		after := s.Image()
		if image.Check(after) != api.OK {
			t.Fatalf("%s of%s leaves what is no image:%s", ask(c), wrote(before), wrote(after))
		}
		rest, _ := image.Del(before, c.Args[1])
		restAfter, _ := image.Del(after, c.Args[1])
		if !image.Same(rest, restAfter) {
			t.Fatalf("%s of%s leaves%s", ask(c), wrote(before), wrote(after))
		}
	}
}

// Draws play no part.
func TestDrawsPlayNoPart(t *testing.T) {
	m := newMaker(9)
	for range 4000 {
		l, c := m.entries(), m.call()
		one, other := load(t, l), load(t, l)
		r, told := hashes.Do(one, c)
		c.Draw = math.MaxUint64 - c.Draw
		again, toldAgain := hashes.Do(other, c)
		if show(r) != show(again) || !sameTold(told, toldAgain) {
			t.Fatalf("%s of%s = %s, then %s", ask(c), wrote(l), show(r), show(again))
		}
		holds(t, ask(c), other, one.Image())
	}
}

// Rule 4: nothing that is handed in is changed or kept, and what is told is new memory

// spoil writes over all that a call told.
func spoil(r api.Reply, told [][]string) {
	l := r.L[:cap(r.L)]
	for i := range l {
		l[i] = api.Reply{Kind: api.RBulk, S: "spoilt"}
	}
	for _, command := range told {
		command = command[:cap(command)]
		for i := range command {
			command[i] = "spoilt"
		}
	}
	told = told[:cap(told)]
	for i := range told {
		told[i] = []string{"spoilt"}
	}
}

// Two spaces with the same entries, on one of which the calls' arguments and all that is told are spoilt: nothing else changes.
func TestWhatIsToldSharesNoList(t *testing.T) {
	m := newMaker(4)
	for range 600 {
		l := m.entries()
		one, other := load(t, l), load(t, l)
		for range 20 {
			c := m.call()
			want, wantTold := hashes.Do(other, c)
			args := append(slices.Clone(c.Args), "behind")
			was := slices.Clone(args)
			c.Args = args[:len(args)-1]
			r, told := hashes.Do(one, c)
			if !slices.Equal(args, was) {
				t.Fatalf("%q were handed in, and are %q now", was, args)
			}
			if show(r) != show(want) || !sameTold(told, wantTold) {
				t.Fatalf("%s = %s, told %s; want %s, told %s", ask(c), show(r), wroteTold(told), show(want), wroteTold(wantTold))
			}
			for i := range args {
				args[i] = "spoilt"
			}
			if show(r) != show(want) || !sameTold(told, wantTold) {
				t.Fatalf("%q told %s, %s when its arguments are spoilt", was, show(r), wroteTold(told))
			}
			for i := range told { // no two lists of one answer share any
				for j := range told[i] {
					told[i][j] = "spoilt"
				}
				if !sameTold(told[i+1:], wantTold[i+1:]) || show(r) != show(want) {
					t.Fatalf("%q: what is told shares memory", was)
				}
			}
			spoil(r, told)
			holds(t, "a call whose answers are spoilt", one, other.Image())
		}
	}
}

// Texts lie in memory of their own, too: what was handed in changes, and nothing else does.
func TestTextsAreNeitherKeptNorShared(t *testing.T) {
	m := newMaker(5)
	for range 3000 {
		l, c := m.entries(), m.call()
		want := load(t, l)
		wantReply, wantTold := hashes.Do(want, c)
		var memory []byte
		for _, a := range c.Args {
			memory = append(memory, a...)
		}
		if len(memory) == 0 {
			continue
		}
		text, from := unsafe.String(&memory[0], len(memory)), 0
		own := slices.Clone(c.Args)
		for i, a := range c.Args {
			own[i] = text[from : from+len(a)]
			from += len(a)
		}
		s := load(t, l)
		r, told := hashes.Do(s, api.Call{Role: c.Role, Now: c.Now, Draw: c.Draw, Args: own})
		for i := range memory {
			memory[i] = '!'
		}
		if show(r) != show(wantReply) || !sameTold(told, wantTold) {
			t.Fatalf("%s told %s, %s when its arguments' texts change", ask(c), show(r), wroteTold(told))
		}
		holds(t, "a call whose texts change", s, want.Image())
	}
}

// No text of an answer lies where one of another answer does.
func TestTextsOfAnswersShareNothing(t *testing.T) {
	seen := map[*byte]string{}
	see := func(from string, texts ...string) {
		for _, x := range texts {
			if len(x) < 2 { // Go itself lays texts of one byte in one place
				continue
			}
			if other, there := seen[unsafe.StringData(x)]; there {
				t.Errorf("%s tells %q, which lies where something of %s does", from, x, other)
			}
			seen[unsafe.StringData(x)] = from
		}
	}
	s := load(t, entries("key=one:11,two:22,three:22,text:some more=four:-100,five:55 list:list old=old1:11@5 older=old2:12@5"))
	for range 2 {
		for _, text := range []string{
			"hset key six 66 seven 77 one 11", "hset key six 66 one 11", "hset key six 67 one 12 six 68", "hset key six 67 one", "hset list six 66", "hset new ten 10", "hsetnx key eight 88", "hsetnx key one 99", "hsetnx fresh nine 99",
			"hget key one", "hget key one", "hget key none", "hmget key one two one none one", "hmget key two", "hmget list one", "hexists key one", "hlen key", "hstrlen key one", "hkeys key", "hkeys key", "hvals key", "hvals key", "hgetall key", "hgetall key", "hgetall list", "hgetall more",
			"hincrby key one 10", "hincrby key one 0", "hincrby key fresh 10", "hincrby key one none", "hincrby key text 10", "hincrby key one 9223372036854775807", "hincrby key one 9223372036854775807", "hincrby newer eleven 11", "hget key one",
			"hdel key six none", "hdel key none", "hdel key fresh seven eight seven", "hdel more four five", "hdel new ten", "hdel fresh nine", "hdel newer eleven", "hset more four -100 five 55", "hset key one 11 two 22 three 22",
			"hset old old1 11", "hlen older", "hset older old2 12",
		} {
			c := api.Call{Role: api.RolePrimary, Now: 10, Args: words(strings.Clone(text))}
			see("the arguments of "+text, c.Args...)
			r, told := hashes.Do(s, c)
			see("the reply of "+text, r.S)
			for _, one := range r.L {
				see("the reply of "+text, one.S)
			}
			for _, command := range told {
				if command[0] == "DEL" { // the space may have told it: its word is the space's own
					command = command[1:]
				}
				see("what "+text+" tells", command...)
			}
		}
	}
}

// nil and empty lists are the same: a call without arguments is none, and nothing told is nothing.
func TestNilAndEmptyLists(t *testing.T) {
	for _, args := range [][]string{nil, {}} {
		if r, told := hashes.Do(space.New(), api.Call{Role: api.RolePrimary, Args: args}); show(r) != "none" || len(told) > 0 {
			t.Errorf("Do without arguments = %s, told %s", show(r), wroteTold(told))
		}
	}
}

// Rule 5: the same again, whatever was done ahead elsewhere, on several spaces at once.
func TestTheSameAgain(t *testing.T) {
	run := func() string {
		var b strings.Builder
		m := newMaker(6)
		for range 40 {
			s := space.New()
			for range 50 {
				r, told := hashes.Do(s, m.call())
				b.WriteString(show(r) + " " + wroteTold(told) + "\n")
			}
			b.WriteString(wrote(s.Image()) + strconv.Itoa(s.Len()) + "\n")
		}
		return b.String()
	}
	want, done := run(), make(chan string)
	for range 4 {
		go func() { done <- run() }()
	}
	for range 4 {
		if <-done != want {
			t.Error("the same calls answer otherwise")
		}
	}
}

// Rule 1: calls end, and none panics, whatever is handed in.
func TestAnyArguments(t *testing.T) {
	t.Parallel()
	m := newMaker(7)
	for range 20000 {
		args := m.args()
		for range m.IntN(3) {
			b := make([]byte, m.IntN(6))
			for i := range b {
				b[i] = byte(m.IntN(256))
			}
			at := m.IntN(len(args) + 1)
			args = slices.Insert(args, at, string(b))
		}
		if len(args) > 1 && m.IntN(5) == 0 {
			args = args[:len(args)-1]
		}
		newTrio(t, m.entries()).do(t, api.Call{Role: roles[m.IntN(len(roles))], Now: m.IntN(25) - 1, Args: args})
	}
}
