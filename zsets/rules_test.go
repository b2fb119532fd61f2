package zsets_test

import (
	"math"
	"math/rand/v2"
	"slices"
	"strconv"
	"strings"
	"testing"
	"unsafe"

	"millpond/api"
	"millpond/image"
	"millpond/space"
	"millpond/zsets"
)

// maker makes calls and entries of all sorts, the same ones at each run.
type maker struct{ *rand.Rand }

func newMaker(seed uint64) maker { return maker{rand.New(rand.NewPCG(seed, 15))} }

func (m maker) of(l ...string) string { return l[m.IntN(len(l))] }

func (m maker) key() string { return m.of("a", "b", "c", "", "\xff") }

func (m maker) text() string { return m.of("", "v", "w", "x", "long", "y", "nx") }

func (m maker) number() string {
	return m.of("0", "1", "2", "2", "3", "-1", "-2", "-3", "1", "0", "x", "-9223372036854775808", "9223372036854775807")
}

func (m maker) bound() string {
	return m.of("-inf", "+inf", "inf", "-2", "-1", "0", "1", "2", "3", "(-1", "(0", "(1", "(2", "-inf", "inf", "(x", "9223372036854775807")
}

// many are one or more of some texts.
func (m maker) many(most int, one func() string) []string {
	l := []string{one()}
	for range m.IntN(most) {
		l = append(l, one())
	}
	return l
}

// pairs are one or more scores and members.
func (m maker) pairs() []string {
	var l []string
	for range 1 + m.IntN(4) {
		l = append(l, m.of(m.number(), "1", "2", "-1"), m.text())
	}
	return l
}

func (m maker) args() []string {
	switch m.IntN(14) {
	case 0, 1:
		return append([]string{"zadd", m.key()}, m.pairs()...)
	case 2, 3:
		return slices.Concat([]string{"zadd", m.key()}, m.many(2, func() string { return m.of("nx", "xx", "gt", "lt", "ch", "CH") }), m.pairs())
	case 4:
		return []string{"zadd", m.key(), m.of("incr", "ch", "xx", "gt"), "incr", m.number(), m.text()}
	case 5:
		return []string{"zincrby", m.key(), m.number(), m.text()}
	case 6:
		return append([]string{"zrem", m.key()}, m.many(4, m.text)...)
	case 7:
		return []string{m.of("zscore", "zrank", "zrevrank"), m.key(), m.text()}
	case 8:
		return []string{"zcard", m.key()}
	case 9:
		return append([]string{m.of("zrange", "zrevrange"), m.key(), m.number(), m.number()}, []string{"withscores", "scores"}[:m.IntN(9)/4%2]...)
	case 10:
		return slices.Concat([]string{"zrangebyscore", m.key(), m.bound(), m.bound()}, []string{"withscores"}[:m.IntN(2)], []string{"limit", m.number(), m.number()}[:m.IntN(2)*3])
	case 11:
		return append([]string{m.of("zpopmin", "zpopmax"), m.key()}, []string{m.number()}[:m.IntN(2)]...)
	case 12:
		return []string{m.of("zcount", "zremrangebyscore"), m.key(), m.bound(), m.bound()}
	}
	return []string{"zremrangebyrank", m.key(), m.number(), m.number()}
}

// calls are some calls, the times of which rise, fall and go back again.
func (m maker) call() api.Call {
	return api.Call{Role: roles[m.IntN(len(roles))], Now: m.IntN(25), Draw: m.Uint64(), Args: m.args()}
}

func (m maker) entries() []api.Entry {
	var l []api.Entry
	for _, key := range []string{"", "a", "b", "c", "\xff"} {
		v := api.Value{Kind: api.KZset}
		names := m.many(5, m.text)
		slices.Sort(names)
		for _, name := range slices.Compact(names) {
			v.Z = append(v.Z, api.Scored{M: name, N: m.Int64N(5) - 2})
		}
		e := stay(key, v)
		if m.IntN(6) == 0 {
			e.V = values[m.of("str", "list", "set", "hash")]
		}
		if m.IntN(2) == 0 {
			e.At = m.IntN(25)
		}
		if m.IntN(4) > 0 {
			l = append(l, e)
		}
	}
	return l
}

// P15.1, P15.2: long rows of calls, each held against the model; what is told, done by the stream, makes the same of another space.
func TestRowsOfCalls(t *testing.T) {
	t.Parallel()
	m := newMaker(1)
	for range 1500 {
		x := newTrio(t, m.entries())
		for range 30 {
			c := m.call()
			if c.Role == api.RoleReader {
				c.Role = api.RolePrimary
			}
			x.do(t, c)
		}
	}
	for range 10000 { // by readers, too
		newTrio(t, m.entries()).do(t, m.call())
	}
}

// outOf are the keys that were taken out by looking: those of DEL.
func outOf(told [][]string) []string {
	var keys []string
	for _, command := range told {
		if command[0] == "DEL" {
			keys = append(keys, command[1])
		}
	}
	return keys
}

// P15.3: what only reads, and an error, changes nothing but what looking takes out, which is over; and what changes nothing tells nothing.
func TestWhatChangesNothing(t *testing.T) {
	t.Parallel()
	m := newMaker(2)
	reads := []string{"zscore", "zcard", "zrank", "zrevrank", "zcount", "zrange", "zrevrange", "zrangebyscore"}
	for range 60000 {
		s, c := load(t, m.entries()), m.call()
		before := s.Image()
		r, told := zsets.Do(s, c)
		after := s.Image()
		if image.Same(before, after) != (len(told) == 0) {
			t.Fatalf("%s of%s tells %s, and leaves%s", ask(c), wrote(before), wroteTold(told), wrote(after))
		}
		if !slices.Contains(reads, c.Args[0]) && r.Kind != api.RError {
			continue
		}
		rest := before
		for _, key := range outOf(told) {
			e, there := image.Find(rest, key)
			if !there || c.Role != api.RolePrimary || e.At == api.Never || e.At > c.Now {
				t.Fatalf("%s of%s takes out %q", ask(c), wrote(before), key)
			}
			rest, _ = image.Del(rest, key)
		}
		if !image.Same(rest, after) || len(told) != len(outOf(told)) {
			t.Fatalf("%s of%s = %s, told %s, leaves%s", ask(c), wrote(before), show(r), wroteTold(told), wrote(after))
		}
	}
}

// P15.3: only the key that is named changes, and what is there is an image still.
func TestOnlyTheNamedKeyChanges(t *testing.T) {
	m := newMaker(8)
	for range 20000 {
		l, c := m.entries(), m.call()
		s := load(t, l)
		before := s.Image()
		zsets.Do(s, c)
		after := s.Image()
		if image.Check(after) != api.OK {
			t.Fatalf("%s of%s leaves what is no image:%s", ask(c), wrote(before), wrote(after))
		}
		rest, _ := image.Del(before, c.Args[1])
		restAfter, _ := image.Del(after, c.Args[1])
		if !image.Same(rest, restAfter) {
			t.Fatalf("%s of%s leaves%s", ask(c), wrote(before), wrote(after))
		}
	}
}

// Draws play no part.
func TestDrawsPlayNoPart(t *testing.T) {
	m := newMaker(9)
	for range 4000 {
		l, c := m.entries(), m.call()
		one, other := load(t, l), load(t, l)
		r, told := zsets.Do(one, c)
		c.Draw = math.MaxUint64 - c.Draw
		again, toldAgain := zsets.Do(other, c)
		if show(r) != show(again) || !sameTold(told, toldAgain) {
			t.Fatalf("%s of%s = %s, then %s", ask(c), wrote(l), show(r), show(again))
		}
		holds(t, ask(c), other, one.Image())
	}
}

// Rule 4: nothing that is handed in is changed or kept, and what is told is new memory

// spoil writes over all that a call told.
func spoil(r api.Reply, told [][]string) {
	l := r.L[:cap(r.L)]
	for i := range l {
		l[i] = api.Reply{Kind: api.RBulk, S: "spoilt"}
	}
	for _, command := range told {
		command = command[:cap(command)]
		for i := range command {
			command[i] = "spoilt"
		}
	}
	told = told[:cap(told)]
	for i := range told {
		told[i] = []string{"spoilt"}
	}
}

// Two spaces with the same entries, on one of which the calls' arguments and all that is told are spoilt: nothing else changes.
func TestWhatIsToldSharesNoList(t *testing.T) {
	m := newMaker(4)
	for range 600 {
		l := m.entries()
		one, other := load(t, l), load(t, l)
		for range 20 {
			c := m.call()
			want, wantTold := zsets.Do(other, c)
			args := append(slices.Clone(c.Args), "behind")
			was := slices.Clone(args)
			c.Args = args[:len(args)-1]
			r, told := zsets.Do(one, c)
			if !slices.Equal(args, was) {
				t.Fatalf("%q were handed in, and are %q now", was, args)
			}
			if show(r) != show(want) || !sameTold(told, wantTold) {
				t.Fatalf("%s = %s, told %s; want %s, told %s", ask(c), show(r), wroteTold(told), show(want), wroteTold(wantTold))
			}
			for i := range args {
				args[i] = "spoilt"
			}
			if show(r) != show(want) || !sameTold(told, wantTold) {
				t.Fatalf("%q told %s, %s when its arguments are spoilt", was, show(r), wroteTold(told))
			}
			for i := range told { // no two lists of one answer share any
				for j := range told[i] {
					told[i][j] = "spoilt"
				}
				if !sameTold(told[i+1:], wantTold[i+1:]) || show(r) != show(want) {
					t.Fatalf("%q: what is told shares memory", was)
				}
			}
			spoil(r, told)
			holds(t, "a call whose answers are spoilt", one, other.Image())
		}
	}
}

// Texts lie in memory of their own, too: what was handed in changes, and nothing else does.
func TestTextsAreNeitherKeptNorShared(t *testing.T) {
	m := newMaker(5)
	for range 3000 {
		l, c := m.entries(), m.call()
		want := load(t, l)
		wantReply, wantTold := zsets.Do(want, c)
		var memory []byte
		for _, a := range c.Args {
			memory = append(memory, a...)
		}
		if len(memory) == 0 {
			continue
		}
		text, from := unsafe.String(&memory[0], len(memory)), 0
		own := slices.Clone(c.Args)
		for i, a := range c.Args {
			own[i] = text[from : from+len(a)]
			from += len(a)
		}
		s := load(t, l)
		r, told := zsets.Do(s, api.Call{Role: c.Role, Now: c.Now, Draw: c.Draw, Args: own})
		for i := range memory {
			memory[i] = '!'
		}
		if show(r) != show(wantReply) || !sameTold(told, wantTold) {
			t.Fatalf("%s told %s, %s when its arguments' texts change", ask(c), show(r), wroteTold(told))
		}
		holds(t, "a call whose texts change", s, want.Image())
	}
}

// No text of an answer lies where one of another answer does.
func TestTextsOfAnswersShareNothing(t *testing.T) {
	seen := map[*byte]string{}
	see := func(from string, texts ...string) {
		for _, x := range texts {
			if len(x) < 2 { // Go itself lays texts of one byte in one place
				continue
			}
			if other, there := seen[unsafe.StringData(x)]; there {
				t.Errorf("%s tells %q, which lies where something of %s does", from, x, other)
			}
			seen[unsafe.StringData(x)] = from
		}
	}
	s := load(t, entries("key=one:11,two:22,three:22 more=four:-100,five:55 one=item:1234 list:list old=old1:11@5 older=old2:12@5"))
	for range 2 {
		for _, text := range []string{
			"zadd key 66 six 77 seven 11 one", "zadd key 66 six 11 one", "zadd key ch 67 six 12 one", "zadd key incr 10 six", "zadd key nx incr 10 six", "zadd key incr 10 fresh", "zadd key nx gt 10 six", "zadd key incr 10 six 10 seven", "zadd key none six", "zadd list 10 six", "zincrby key 10 six", "zincrby key 0 six", "zincrby key 9223372036854775807 six", "zadd new 10 ten", "zincrby new 10 eleven",
			"zscore key one", "zscore key one", "zscore key six", "zscore key none", "zcard key", "zrank key one", "zrevrank key one", "zrank key none", "zcount key 10 20", "zcount key none 20", "zrange key 0 -1", "zrange key 0 -1 withscores", "zrevrange key 0 -1 withscores", "zrevrange key 0 -1 withscore", "zrangebyscore key -inf inf withscores", "zrangebyscore key -inf inf limit 1 2", "zrangebyscore key 0 99 limit 1",
			"zrem key six none", "zrem key none", "zrem key fresh seven", "zpopmin key", "zpopmax key 2", "zpopmin key none", "zpopmin key 10 20", "zpopmin more 99", "zpopmax new 99", "zadd more -100 four 55 five", "zadd key 11 one 22 two 22 three", "zremrangebyrank key 0 0", "zremrangebyscore key 22 22", "zremrangebyscore key none 22",
			"zadd old 11 old1", "zcard older", "zadd key 11 one 22 two 22 three", "zadd older 12 old2",
		} {
			c := api.Call{Role: api.RolePrimary, Now: 10, Args: words(strings.Clone(text))}
			see("the arguments of "+text, c.Args...)
			r, told := zsets.Do(s, c)
			see("the reply of "+text, r.S)
			for _, one := range r.L {
				see("the reply of "+text, one.S)
			}
			for _, command := range told {
				if command[0] == "DEL" { // the space may have told it: its word is the space's own
					command = command[1:]
				}
				see("what "+text+" tells", command...)
			}
		}
	}
}

// nil and empty lists are the same: a call without arguments is none, and nothing told is nothing.
func TestNilAndEmptyLists(t *testing.T) {
	for _, args := range [][]string{nil, {}} {
		if r, told := zsets.Do(space.New(), api.Call{Role: api.RolePrimary, Args: args}); show(r) != "none" || len(told) > 0 {
			t.Errorf("Do without arguments = %s, told %s", show(r), wroteTold(told))
		}
	}
}

// Rule 5: the same again, whatever was done ahead elsewhere, on several spaces at once.
func TestTheSameAgain(t *testing.T) {
	run := func() string {
		var b strings.Builder
		m := newMaker(6)
		for range 40 {
			s := space.New()
			for range 50 {
				r, told := zsets.Do(s, m.call())
				b.WriteString(show(r) + " " + wroteTold(told) + "\n")
			}
			b.WriteString(wrote(s.Image()) + strconv.Itoa(s.Len()) + "\n")
		}
		return b.String()
	}
	want, done := run(), make(chan string)
	for range 4 {
		go func() { done <- run() }()
	}
	for range 4 {
		if <-done != want {
			t.Error("the same calls answer otherwise")
		}
	}
}

// Rule 1: calls end, and none panics, whatever is handed in.
func TestAnyArguments(t *testing.T) {
	t.Parallel()
	m := newMaker(7)
	for range 20000 {
		args := m.args()
		for range m.IntN(3) {
			b := make([]byte, m.IntN(6))
			for i := range b {
				b[i] = byte(m.IntN(256))
			}
			at := m.IntN(len(args) + 1)
			args = slices.Insert(args, at, string(b))
		}
		if len(args) > 1 && m.IntN(5) == 0 {
			args = args[:len(args)-1]
		}
		newTrio(t, m.entries()).do(t, api.Call{Role: roles[m.IntN(len(roles))], Now: m.IntN(25) - 1, Args: args})
	}
}
