package sets_test

import (
	"math"
	"math/rand/v2"
	"slices"
	"strconv"
	"strings"
	"testing"
	"unsafe"

	"millpond/api"
	"millpond/image"
	"millpond/sets"
	"millpond/space"
)

// maker makes calls and entries of all sorts, the same ones at each run.
type maker struct{ *rand.Rand }

func newMaker(seed uint64) maker { return maker{rand.New(rand.NewPCG(seed, 14))} }

func (m maker) of(l ...string) string { return l[m.IntN(len(l))] }

func (m maker) key() string { return m.of("a", "b", "c", "", "\xff") }

func (m maker) text() string { return m.of("", "v", "w", "x", "long", "y") }

func (m maker) number() string {
	return m.of("0", "1", "2", "2", "3", "-1", "-2", "9", "x", "-9223372036854775808", "9223372036854775807", "-1024", "-1025")
}

// many are one or more of some texts.
func (m maker) many(most int, one func() string) []string {
	l := []string{one()}
	for range m.IntN(most) {
		l = append(l, one())
	}
	return l
}

func (m maker) args() []string {
	switch m.IntN(12) {
	case 0, 1:
		return append([]string{"sadd", m.key()}, m.many(4, m.text)...)
	case 2:
		return append([]string{"srem", m.key()}, m.many(4, m.text)...)
	case 3:
		return []string{"sismember", m.key(), m.text()}
	case 4:
		return append([]string{"smismember", m.key()}, m.many(4, m.text)...)
	case 5:
		return []string{m.of("scard", "smembers"), m.key()}
	case 6:
		return []string{m.of("spop", "srandmember"), m.key()}
	case 7:
		return []string{m.of("spop", "srandmember"), m.key(), m.number()}
	case 8:
		return append([]string{m.of("sunion", "sinter", "sdiff")}, m.many(4, m.key)...)
	case 9, 10:
		return append([]string{m.of("sunionstore", "sinterstore", "sdiffstore"), m.key()}, m.many(3, m.key)...)
	}
	return []string{"smove", m.key(), m.key(), m.text()}
}

// calls are some calls, the times of which rise, fall and go back again.
func (m maker) call() api.Call {
	return api.Call{Role: roles[m.IntN(len(roles))], Now: m.IntN(25), Draw: m.Uint64(), Args: m.args()}
}

func (m maker) entries() []api.Entry {
	var l []api.Entry
	for _, key := range []string{"", "a", "b", "c", "\xff"} {
		e := stay(key, set(m.many(5, m.text)...))
		if m.IntN(6) == 0 {
			e.V = values[m.of("str", "list", "zset", "hash")]
		}
		if m.IntN(2) == 0 {
			e.At = m.IntN(25)
		}
		if m.IntN(4) > 0 {
			l = append(l, e)
		}
	}
	return l
}

// P14.1, P14.2: long rows of calls, each held against the model; what is told, done by the stream, makes the same of another space.
func TestRowsOfCalls(t *testing.T) {
	t.Parallel()
	m := newMaker(1)
	for range 1500 {
		x := newTrio(t, m.entries())
		for range 30 {
			c := m.call()
			if c.Role == api.RoleReader {
				c.Role = api.RolePrimary
			}
			x.do(t, c)
		}
	}
	for range 10000 { // by readers, too
		newTrio(t, m.entries()).do(t, m.call())
	}
}

// outOf are the keys that were taken out by looking: those of DEL.
func outOf(told [][]string) []string {
	var keys []string
	for _, command := range told {
		if command[0] == "DEL" {
			keys = append(keys, command[1])
		}
	}
	return keys
}

// P14.3: what only reads, and an error, changes nothing but what looking takes out, which is over; and what changes nothing tells nothing.
func TestWhatChangesNothing(t *testing.T) {
	t.Parallel()
	m := newMaker(2)
	reads := []string{"sismember", "smismember", "scard", "smembers", "srandmember", "sunion", "sinter", "sdiff"}
	for range 60000 {
		s, c := load(t, m.entries()), m.call()
		before := s.Image()
		r, told := sets.Do(s, c)
		after := s.Image()
		if image.Same(before, after) != (len(told) == 0) {
			t.Fatalf("%s of%s tells %s, and leaves%s", ask(c), wrote(before), wroteTold(told), wrote(after))
		}
		if !slices.Contains(reads, c.Args[0]) && r.Kind != api.RError {
			continue
		}
		rest := before
		for _, key := range outOf(told) {
			e, there := image.Find(rest, key)
			if !there || c.Role != api.RolePrimary || e.At == api.Never || e.At > c.Now {
				t.Fatalf("%s of%s takes out %q", ask(c), wrote(before), key)
			}
			rest, _ = image.Del(rest, key)
		}
		if !image.Same(rest, after) || len(told) != len(outOf(told)) {
			t.Fatalf("%s of%s = %s, told %s, leaves%s", ask(c), wrote(before), show(r), wroteTold(told), wrote(after))
		}
	}
}

// tally is how often each member is there, in all sets.
func tally(l []api.Entry) map[string]int {
	count := map[string]int{}
	for _, e := range l {
		if e.V.Kind == api.KSet {
			for _, x := range e.V.L {
				count[x]++
			}
		}
	}
	return count
}

// P14.4: SMOVE changes the number of no member but by those that b had.
func TestMoveChangesNoNumber(t *testing.T) {
	m := newMaker(3)
	moved := 0
	for range 20000 {
		s, a, b, x := load(t, m.entries()), m.key(), m.key(), m.text()
		c := api.Call{Role: m.role(), Now: m.IntN(25), Args: []string{"smove", a, b, x}}
		if c.Role != api.RoleStream { // what is over, and would go by looking, or by what is put there, goes ahead
			s.Expire(c.Now, api.MaxKeys)
		}
		before := tally(s.Image())
		other, _ := s.Look(b)
		r, _ := sets.Do(s, c)
		if show(r) == ":1" && a != b && other.V.Kind == api.KSet && slices.Contains(other.V.L, x) {
			before[x]--
		}
		if show(r) == ":1" {
			moved++
		}
		for text, n := range tally(s.Image()) {
			if before[text] != n {
				t.Fatalf("%s: %q is there %d times; want %d", ask(c), text, n, before[text])
			}
			delete(before, text)
		}
		for text, n := range before {
			if n != 0 {
				t.Fatalf("%s: %q is gone; want %d", ask(c), text, n)
			}
		}
	}
	if moved < 1000 {
		t.Errorf("only %d calls moved something", moved)
	}
}

func (m maker) role() api.Role { return roles[m.IntN(len(roles))] }

// P14.5: what SPOP and SRANDMEMBER tell are members; what SPOP told is none any more.
func TestWhatIsDrawnAreMembers(t *testing.T) {
	m := newMaker(8)
	for range 20000 {
		s := load(t, m.entries())
		c := api.Call{Role: m.role(), Now: m.IntN(25), Draw: m.Uint64(), Args: []string{m.of("spop", "srandmember"), m.key()}}
		if m.IntN(2) == 0 {
			c.Args = append(c.Args, m.number())
		}
		was, _ := s.Look(c.Args[1])
		r, _ := sets.Do(s, c)
		left, _ := s.Look(c.Args[1])
		l := r.L
		if r.Kind == api.RBulk {
			l = []api.Reply{r}
		}
		for _, one := range l {
			if one.Kind != api.RBulk || !slices.Contains(was.V.L, one.S) {
				t.Fatalf("%s of %q = %s", ask(c), was.V.L, show(r))
			}
			if slices.Contains(left.V.L, one.S) == (c.Args[0] == "spop") {
				t.Fatalf("%s of %q = %s, leaves %q", ask(c), was.V.L, show(r), left.V.L)
			}
		}
		if c.Args[0] == "spop" && len(was.V.L)-len(left.V.L) != len(l) && r.Kind != api.RNil && len(l) > 0 {
			t.Fatalf("%s of %q = %s, leaves %q", ask(c), was.V.L, show(r), left.V.L)
		}
	}
}

// Draws play a part in SPOP and SRANDMEMBER alone.
func TestDrawsPlayNoPartElsewhere(t *testing.T) {
	m := newMaker(9)
	for range 4000 {
		l, c := m.entries(), m.call()
		if c.Args[0] == "spop" || c.Args[0] == "srandmember" {
			continue
		}
		one, other := load(t, l), load(t, l)
		r, told := sets.Do(one, c)
		c.Draw = math.MaxUint64 - c.Draw
		again, toldAgain := sets.Do(other, c)
		if show(r) != show(again) || !sameTold(told, toldAgain) {
			t.Fatalf("%s of%s = %s, then %s", ask(c), wrote(l), show(r), show(again))
		}
		holds(t, ask(c), other, one.Image())
	}
}

// Rule 4: nothing that is handed in is changed or kept, and what is told is new memory

// spoil writes over all that a call told.
func spoil(r api.Reply, told [][]string) {
	l := r.L[:cap(r.L)]
	for i := range l {
		l[i] = api.Reply{Kind: api.RBulk, S: "spoilt"}
	}
	for _, command := range told {
		command = command[:cap(command)]
		for i := range command {
			command[i] = "spoilt"
		}
	}
	told = told[:cap(told)]
	for i := range told {
		told[i] = []string{"spoilt"}
	}
}

// Two spaces with the same entries, on one of which the calls' arguments and all that is told are spoilt: nothing else changes.
func TestWhatIsToldSharesNoList(t *testing.T) {
	m := newMaker(4)
	for range 600 {
		l := m.entries()
		one, other := load(t, l), load(t, l)
		for range 20 {
			c := m.call()
			want, wantTold := sets.Do(other, c)
			args := append(slices.Clone(c.Args), "behind")
			was := slices.Clone(args)
			c.Args = args[:len(args)-1]
			r, told := sets.Do(one, c)
			if !slices.Equal(args, was) {
				t.Fatalf("%q were handed in, and are %q now", was, args)
			}
			if show(r) != show(want) || !sameTold(told, wantTold) {
				t.Fatalf("%s = %s, told %s; want %s, told %s", ask(c), show(r), wroteTold(told), show(want), wroteTold(wantTold))
			}
			for i := range args {
				args[i] = "spoilt"
			}
			if show(r) != show(want) || !sameTold(told, wantTold) {
				t.Fatalf("%q told %s, %s when its arguments are spoilt", was, show(r), wroteTold(told))
			}
			for i := range told { // no two lists of one answer share any
				for j := range told[i] {
					told[i][j] = "spoilt"
				}
				if !sameTold(told[i+1:], wantTold[i+1:]) || show(r) != show(want) {
					t.Fatalf("%q: what is told shares memory", was)
				}
			}
			spoil(r, told)
			holds(t, "a call whose answers are spoilt", one, other.Image())
		}
	}
}

// Texts lie in memory of their own, too: what was handed in changes, and nothing else does.
func TestTextsAreNeitherKeptNorShared(t *testing.T) {
	m := newMaker(5)
	for range 3000 {
		l, c := m.entries(), m.call()
		want := load(t, l)
		wantReply, wantTold := sets.Do(want, c)
		var memory []byte
		for _, a := range c.Args {
			memory = append(memory, a...)
		}
		if len(memory) == 0 {
			continue
		}
		text, from := unsafe.String(&memory[0], len(memory)), 0
		own := slices.Clone(c.Args)
		for i, a := range c.Args {
			own[i] = text[from : from+len(a)]
			from += len(a)
		}
		s := load(t, l)
		r, told := sets.Do(s, api.Call{Role: c.Role, Now: c.Now, Draw: c.Draw, Args: own})
		for i := range memory {
			memory[i] = '!'
		}
		if show(r) != show(wantReply) || !sameTold(told, wantTold) {
			t.Fatalf("%s told %s, %s when its arguments' texts change", ask(c), show(r), wroteTold(told))
		}
		holds(t, "a call whose texts change", s, want.Image())
	}
}

// No text of an answer lies where one of another answer does.
func TestTextsOfAnswersShareNothing(t *testing.T) {
	seen := map[*byte]string{}
	see := func(from string, texts ...string) {
		for _, x := range texts {
			if len(x) < 2 { // Go itself lays texts of one byte in one place
				continue
			}
			if other, there := seen[unsafe.StringData(x)]; there {
				t.Errorf("%s tells %q, which lies where something of %s does", from, x, other)
			}
			seen[unsafe.StringData(x)] = from
		}
	}
	s := load(t, entries("key=one,two,three,two more=four,five,one one=item list:list old=old1@5 older=old2@5"))
	for range 2 {
		for _, text := range []string{
			"sadd key six seven one", "sadd key six one", "srem key six none", "srem key none", "sismember key one", "smismember key one none one", "scard key", "smembers key", "smembers key", "srandmember key", "srandmember key", "srandmember key 3", "srandmember key -20", "srandmember key -2000", "srandmember key none", "srandmember key 1 2",
			"spop key", "spop key 2", "spop key -1", "spop key none", "sadd key one two three eight nine", "smove key more two", "smove more key two", "smove key key one", "smove key more one", "smove one fresh item", "smove fresh one item", "smove key list one", "smove none one item",
			"sunion key more", "sunion key", "sunion key key", "sinter key more", "sinter key", "sdiff key more", "sdiff key", "sunion key list", "sunionstore stored key more", "sunionstore stored more key", "sinterstore stored key key", "sdiffstore stored more key", "sdiffstore stored none", "sunionstore key key", "sunionstore stored list",
			"sadd old old1", "sunionstore older one", "spop key 99", "spop more 1", "sadd key one two three two", "sadd more four five one",
		} {
			c := api.Call{Role: api.RolePrimary, Now: 10, Args: words(strings.Clone(text))}
			see("the arguments of "+text, c.Args...)
			r, told := sets.Do(s, c)
			see("the reply of "+text, r.S)
			for _, one := range r.L {
				see("the reply of "+text, one.S)
			}
			for _, command := range told {
				if command[0] == "DEL" { // the space may have told it: its word is the space's own
					command = command[1:]
				}
				see("what "+text+" tells", command...)
			}
		}
	}
}

// nil and empty lists are the same: a call without arguments is none, and nothing told is nothing.
func TestNilAndEmptyLists(t *testing.T) {
	for _, args := range [][]string{nil, {}} {
		if r, told := sets.Do(space.New(), api.Call{Role: api.RolePrimary, Args: args}); show(r) != "none" || len(told) > 0 {
			t.Errorf("Do without arguments = %s, told %s", show(r), wroteTold(told))
		}
	}
}

// Rule 5: the same again, whatever was done ahead elsewhere, on several spaces at once.
func TestTheSameAgain(t *testing.T) {
	run := func() string {
		var b strings.Builder
		m := newMaker(6)
		for range 40 {
			s := space.New()
			for range 50 {
				r, told := sets.Do(s, m.call())
				b.WriteString(show(r) + " " + wroteTold(told) + "\n")
			}
			b.WriteString(wrote(s.Image()) + strconv.Itoa(s.Len()) + "\n")
		}
		return b.String()
	}
	want, done := run(), make(chan string)
	for range 4 {
		go func() { done <- run() }()
	}
	for range 4 {
		if <-done != want {
			t.Error("the same calls answer otherwise")
		}
	}
}

// Rule 1: calls end, and none panics, whatever is handed in.
func TestAnyArguments(t *testing.T) {
	t.Parallel()
	m := newMaker(7)
	for range 20000 {
		args := m.args()
		for range m.IntN(3) {
			b := make([]byte, m.IntN(6))
			for i := range b {
				b[i] = byte(m.IntN(256))
			}
			at := m.IntN(len(args) + 1)
			args = slices.Insert(args, at, string(b))
		}
		if len(args) > 1 && m.IntN(5) == 0 {
			args = args[:len(args)-1]
		}
		newTrio(t, m.entries()).do(t, api.Call{Role: roles[m.IntN(len(roles))], Now: m.IntN(25) - 1, Args: args})
	}
}
