package keys_test

import (
	"math"
	"math/rand/v2"
	"slices"
	"strconv"
	"strings"
	"testing"
	"unsafe"

	"millpond/api"
	"millpond/image"
	"millpond/keys"
	"millpond/space"
)

// maker makes calls and entries of all sorts, the same ones at each run.
type maker struct{ *rand.Rand }

func newMaker(seed uint64) maker { return maker{rand.New(rand.NewPCG(seed, 17))} }

func (m maker) of(l ...string) string { return l[m.IntN(len(l))] }

func (m maker) key() string { return m.of("a", "b", "c", "", "\xff") }

func (m maker) number() string {
	return m.of("0", "1", "2", "-1", "5", "12", "20", "24", "0", "x", "01", "", "-1099511627776", "-1099511627777", "1099511627776", "1099511627777", "9223372036854775807", "1099511627")
}

// many are one or more of some texts.
func (m maker) many(most int, one func() string) []string {
	l := []string{one()}
	for range m.IntN(most) {
		l = append(l, one())
	}
	return l
}

func (m maker) args() []string {
	switch m.IntN(12) {
	case 0:
		return append([]string{"del"}, m.many(3, m.key)...)
	case 1:
		return append([]string{"exists"}, m.many(4, m.key)...)
	case 2:
		return []string{m.of("type", "ttl", "pttl"), m.key()}
	case 3, 4, 5:
		return []string{m.of("expire", "pexpire", "pexpire", "expireat", "pexpireat", "pexpireat"), m.key(), m.number()}
	case 6:
		return []string{"persist", m.key()}
	case 7, 8, 9:
		return []string{m.of("rename", "renamenx"), m.key(), m.key()}
	case 10:
		return []string{"keys", m.of("*", "?", "[ab]", "[^a]", "a*", "", "\xff", "d")}
	}
	return []string{m.of("randomkey", "randomkey", "randomkey", "dbsize", "dbsize", "flushall")}
}

// calls are some calls, the times of which rise, fall and go back again.
func (m maker) call() api.Call {
	return api.Call{Role: roles[m.IntN(len(roles))], Now: m.IntN(25), Draw: m.Uint64(), Args: m.args()}
}

func (m maker) entries() []api.Entry {
	var l []api.Entry
	for _, key := range []string{"", "a", "b", "c", "\xff"} {
		e := stay(key, str(m.of("v", "w", "", "x")))
		if m.IntN(2) == 0 {
			e.V = values[m.of("list", "set", "zset", "hash")]
		}
		if m.IntN(2) == 0 {
			e.At = m.IntN(25)
		}
		if m.IntN(4) > 0 {
			l = append(l, e)
		}
	}
	return l
}

// P17.1, P17.2: long rows of calls, each held against the model; what is told, done by the stream, makes the same of another space.
func TestRowsOfCalls(t *testing.T) {
	t.Parallel()
	m := newMaker(1)
	for range 4000 {
		x := newTrio(t, m.entries())
		for range 20 {
			c := m.call()
			if c.Role == api.RoleReader {
				c.Role = api.RolePrimary
			}
			x.do(t, c)
		}
	}
	for range 40000 { // by readers, too
		newTrio(t, m.entries()).do(t, m.call())
	}
}

// outOf are the keys that were taken out by looking: those of DEL.
func outOf(told [][]string) []string {
	var keys []string
	for _, command := range told {
		if command[0] == "DEL" {
			keys = append(keys, command[1])
		}
	}
	return keys
}

// P17.5: what only reads, and an error, changes nothing but what looking takes out, which is over; and what changes nothing tells nothing.
func TestWhatChangesNothing(t *testing.T) {
	t.Parallel()
	m := newMaker(2)
	reads := []string{"exists", "type", "ttl", "pttl", "keys", "randomkey", "dbsize"}
	for range 60000 {
		s, c := load(t, m.entries()), m.call()
		before := s.Image()
		r, told := keys.Do(s, c)
		after := s.Image()
		if image.Same(before, after) != (len(told) == 0) {
			t.Fatalf("%s of%s tells %s, and leaves%s", ask(c), wrote(before), wroteTold(told), wrote(after))
		}
		if !slices.Contains(reads, c.Args[0]) && r.Kind != api.RError {
			continue
		}
		if c.Args[0] == "keys" || c.Args[0] == "dbsize" {
			holds(t, ask(c), s, before)
		}
		rest := before
		for _, key := range outOf(told) {
			e, there := image.Find(rest, key)
			if !there || c.Role != api.RolePrimary || e.At == api.Never || e.At > c.Now {
				t.Fatalf("%s of%s takes out %q", ask(c), wrote(before), key)
			}
			rest, _ = image.Del(rest, key)
		}
		if !image.Same(rest, after) || len(told) != len(outOf(told)) {
			t.Fatalf("%s of%s = %s, told %s, leaves%s", ask(c), wrote(before), show(r), wroteTold(told), wrote(after))
		}
	}
}

// Only keys that are named change, and what is there is an image still.
func TestOnlyNamedKeysChange(t *testing.T) {
	t.Parallel()
	m := newMaker(8)
	for range 30000 {
		l, c := m.entries(), m.call()
		s := load(t, l)
		before := s.Image()
		keys.Do(s, c)
		after := s.Image()
		if image.Check(after) != api.OK {
			t.Fatalf("%s of%s leaves what is no image:%s", ask(c), wrote(before), wrote(after))
		}
		named := c.Args[1:]
		switch c.Args[0] {
		case "keys":
			named = nil
		case "randomkey", "flushall", "dbsize":
			continue
		case "rename", "renamenx":
		case "del", "exists":
		default:
			named = named[:1]
		}
		rest, restAfter := before, after
		for _, key := range named {
			rest, _ = image.Del(rest, key)
			restAfter, _ = image.Del(restAfter, key)
		}
		if !image.Same(rest, restAfter) {
			t.Fatalf("%s of%s leaves%s", ask(c), wrote(before), wrote(after))
		}
	}
}

// Draws play no part, but in RANDOMKEY.
func TestDrawsPlayNoPart(t *testing.T) {
	m := newMaker(9)
	for range 6000 {
		l, c := m.entries(), m.call()
		if c.Args[0] == "randomkey" {
			continue
		}
		one, other := load(t, l), load(t, l)
		r, told := keys.Do(one, c)
		c.Draw = math.MaxUint64 - c.Draw
		again, toldAgain := keys.Do(other, c)
		if show(r) != show(again) || !sameTold(told, toldAgain) {
			t.Fatalf("%s of%s = %s, then %s", ask(c), wrote(l), show(r), show(again))
		}
		holds(t, ask(c), other, one.Image())
	}
}

// Rule 4: nothing that is handed in is changed or kept, and what is told is new memory

// spoil writes over all that a call told.
func spoil(r api.Reply, told [][]string) {
	l := r.L[:cap(r.L)]
	for i := range l {
		l[i] = api.Reply{Kind: api.RBulk, S: "spoilt"}
	}
	for _, command := range told {
		command = command[:cap(command)]
		for i := range command {
			command[i] = "spoilt"
		}
	}
	told = told[:cap(told)]
	for i := range told {
		told[i] = []string{"spoilt"}
	}
}

// Two spaces with the same entries, on one of which the calls' arguments and all that is told are spoilt: nothing else changes.
func TestWhatIsToldSharesNoList(t *testing.T) {
	m := newMaker(4)
	for range 600 {
		l := m.entries()
		one, other := load(t, l), load(t, l)
		for range 20 {
			c := m.call()
			want, wantTold := keys.Do(other, c)
			args := append(slices.Clone(c.Args), "behind")
			was := slices.Clone(args)
			c.Args = args[:len(args)-1]
			r, told := keys.Do(one, c)
			if !slices.Equal(args, was) {
				t.Fatalf("%q were handed in, and are %q now", was, args)
			}
			if show(r) != show(want) || !sameTold(told, wantTold) {
				t.Fatalf("%s = %s, told %s; want %s, told %s", ask(c), show(r), wroteTold(told), show(want), wroteTold(wantTold))
			}
			for i := range args {
				args[i] = "spoilt"
			}
			if show(r) != show(want) || !sameTold(told, wantTold) {
				t.Fatalf("%q told %s, %s when its arguments are spoilt", was, show(r), wroteTold(told))
			}
			for i := range told { // no two lists of one answer share any
				for j := range told[i] {
					told[i][j] = "spoilt"
				}
				if !sameTold(told[i+1:], wantTold[i+1:]) || show(r) != show(want) {
					t.Fatalf("%q: what is told shares memory", was)
				}
			}
			spoil(r, told)
			holds(t, "a call whose answers are spoilt", one, other.Image())
		}
	}
}

// Texts lie in memory of their own, too: what was handed in changes, and nothing else does.
func TestTextsAreNeitherKeptNorShared(t *testing.T) {
	m := newMaker(5)
	for range 3000 {
		l, c := m.entries(), m.call()
		want := load(t, l)
		wantReply, wantTold := keys.Do(want, c)
		var memory []byte
		for _, a := range c.Args {
			memory = append(memory, a...)
		}
		if len(memory) == 0 {
			continue
		}
		text, from := unsafe.String(&memory[0], len(memory)), 0
		own := slices.Clone(c.Args)
		for i, a := range c.Args {
			own[i] = text[from : from+len(a)]
			from += len(a)
		}
		s := load(t, l)
		r, told := keys.Do(s, api.Call{Role: c.Role, Now: c.Now, Draw: c.Draw, Args: own})
		for i := range memory {
			memory[i] = '!'
		}
		if show(r) != show(wantReply) || !sameTold(told, wantTold) {
			t.Fatalf("%s told %s, %s when its arguments' texts change", ask(c), show(r), wroteTold(told))
		}
		holds(t, "a call whose texts change", s, want.Image())
	}
}

// No text of an answer lies where one of another answer does.
func TestTextsOfAnswersShareNothing(t *testing.T) {
	seen := map[*byte]string{}
	see := func(from string, texts ...string) {
		for _, x := range texts {
			if len(x) < 2 { // Go itself lays texts of one byte in one place
				continue
			}
			if other, there := seen[unsafe.StringData(x)]; there {
				t.Errorf("%s tells %q, which lies where something of %s does", from, x, other)
			}
			seen[unsafe.StringData(x)] = from
		}
	}
	s := space.New()
	for range 2 {
		for _, e := range entries("key=one kez:list other:zset@99 over=v@9 older:set@10 oldest=w@8") {
			s.Put(e.Key, e.V, e.At)
		}
		for _, text := range []string{
			"exists key over", "exists key kez", "type key", "type key", "type kez", "type none", "type none", "type other", "expire key 12", "expire key 12", "pexpire key 1234", "pexpire kez 1234", "pexpireat key 1234", "pexpireat kez 4321", "expireat key 1234", "expireat none 12", "expire key none", "expire key none", "expire key 1099511627777", "pexpire key 1099511627777",
			"ttl key", "pttl kez", "ttl none", "persist key", "persist kez", "persist key", "pexpireat key 4321", "keys *", "keys *", "keys ke?", "keys kez", "keys none", "randomkey", "randomkey", "randomkey", "dbsize",
			"rename key another", "rename another key", "rename key key", "rename none key", "rename none key", "renamenx key kez", "renamenx key another", "renamenx another key", "renamenx older key", "rename kez oldest", "rename oldest kez", "del another none", "expire kez -12", "pexpireat other 0", "del key none", "rename key kez", "keys *", "flushall", "flushall", "randomkey", "keys *",
		} {
			c := api.Call{Role: api.RolePrimary, Now: 10, Args: words(strings.Clone(text))}
			see("the arguments of "+text, c.Args...)
			r, told := keys.Do(s, c)
			see("the reply of "+text, r.S)
			for _, one := range r.L {
				see("the reply of "+text, one.S)
			}
			for _, command := range told {
				if command[0] == "DEL" { // the space may have told it: its word is the space's own
					command = command[1:]
				}
				see("what "+text+" tells", command...)
			}
		}
	}
}

// nil and empty lists are the same: a call without arguments is none, and nothing told is nothing.
func TestNilAndEmptyLists(t *testing.T) {
	for _, args := range [][]string{nil, {}} {
		if r, told := keys.Do(space.New(), api.Call{Role: api.RolePrimary, Args: args}); show(r) != "none" || len(told) > 0 {
			t.Errorf("Do without arguments = %s, told %s", show(r), wroteTold(told))
		}
	}
}

// Rule 5: the same again, whatever was done ahead elsewhere, on several spaces at once.
func TestTheSameAgain(t *testing.T) {
	run := func() string {
		var b strings.Builder
		m := newMaker(6)
		for range 40 {
			s := space.New()
			for range 50 {
				r, told := keys.Do(s, m.call())
				b.WriteString(show(r) + " " + wroteTold(told) + "\n")
			}
			b.WriteString(wrote(s.Image()) + strconv.Itoa(s.Len()) + "\n")
		}
		return b.String()
	}
	want, done := run(), make(chan string)
	for range 4 {
		go func() { done <- run() }()
	}
	for range 4 {
		if <-done != want {
			t.Error("the same calls answer otherwise")
		}
	}
}

// Rule 1: calls end, and none panics, whatever is handed in.
func TestAnyArguments(t *testing.T) {
	t.Parallel()
	m := newMaker(7)
	for range 20000 {
		args := m.args()
		for range m.IntN(3) {
			b := make([]byte, m.IntN(6))
			for i := range b {
				b[i] = byte(m.IntN(256))
			}
			at := m.IntN(len(args) + 1)
			args = slices.Insert(args, at, string(b))
		}
		if len(args) > 1 && m.IntN(5) == 0 {
			args = args[:len(args)-1]
		}
		newTrio(t, m.entries()).do(t, api.Call{Role: roles[m.IntN(len(roles))], Now: m.IntN(25) - 1, Args: args})
	}
}
