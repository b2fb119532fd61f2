package sets_test

import (
	"maps"
	"math/big"
	"regexp"
	"slices"
	"strings"

	"millpond/api"
	"millpond/image"
)

// The model: a store is an image, which image's Put and Del alone change; a call is done on it as the chapter's words say.
type model struct {
	l    []api.Entry
	c    api.Call
	told [][]string
}

// arities are how many arguments each command has, below 0: at least.
var arities = map[string]int{
	"sadd": -3, "srem": -3, "sismember": 3, "smismember": -3, "scard": 2, "smembers": 2, "spop": -2, "srandmember": -2, "smove": 4,
	"sunion": -2, "sinter": -2, "sdiff": -2, "sunionstore": -3, "sinterstore": -3, "sdiffstore": -3,
}

// errors are the chapter's errors by their names.
var errors = map[string]string{
	"WRONG":  "WRONGTYPE Operation against a key holding the wrong kind of value",
	"NUMBER": "ERR value is not an integer or out of range",
	"SYNTAX": "ERR syntax error",
	"RANGE":  "ERR value is out of range",
	"LARGE":  "ERR collection is too large",
	"FULL":   "ERR store is full",
}

// fail ends a command with the error of a name.
func (m *model) fail(name string) { panic(api.Reply{Kind: api.RError, S: errors[name]}) }

// modelLower is a text with small letters, of A to Z alone.
func modelLower(s string) string {
	b := []byte(s)
	for i := range b {
		if at := strings.IndexByte("ABCDEFGHIJKLMNOPQRSTUVWXYZ", b[i]); at >= 0 {
			b[i] = "abcdefghijklmnopqrstuvwxyz"[at]
		}
	}
	return string(b)
}

// isMine: is a call one of the package's?
func isMine(c api.Call) bool {
	if len(c.Args) == 0 || len(c.Args) > 1024 || c.Now < 0 || c.Now > 1<<40 {
		return false
	}
	if slices.ContainsFunc(c.Args, func(a string) bool { return len(a) > 65536 }) {
		return false
	}
	arity, mine := arities[modelLower(c.Args[0])]
	return mine && (len(c.Args) == arity || arity < 0 && len(c.Args) >= -arity)
}

func (m *model) do(c api.Call) (r api.Reply, told [][]string) {
	if !isMine(c) {
		return api.Reply{}, nil
	}
	m.c, m.told = c, nil
	defer func() {
		if told = m.told; r.Kind == 0 {
			r = recover().(api.Reply)
		}
	}()
	return commands()[modelLower(c.Args[0])](m, c.Args), nil
}

// bag is what a key has: which members, by how often they are there; kind 0: it is not there.
type bag struct {
	in   map[string]int
	at   int
	kind api.Kind
}

// see looks at a key, which may have any kind.
func (m *model) see(key string) bag {
	e, stands := image.Find(m.l, key)
	isOver := stands && e.At >= 0 && e.At <= m.c.Now
	if isOver && m.c.Role == 1 {
		m.l, _ = image.Del(m.l, key)
		m.told = append(m.told, []string{"DEL", key})
	}
	if !stands || isOver && (m.c.Role == 1 || m.c.Role == 2) {
		return bag{in: map[string]int{}, at: -1}
	}
	b := bag{map[string]int{}, e.At, e.V.Kind}
	if e.V.Kind == 3 {
		for _, x := range e.V.L {
			b.in[x] = 1
		}
	}
	return b
}

// right: have all of these the right kind, if they are there?
func (m *model) right(l ...bag) {
	for _, b := range l {
		if b.kind != 0 && b.kind != 3 {
			m.fail("WRONG")
		}
	}
}

// look looks at a key that is to be a set, if it is there.
func (m *model) look(key string) bag {
	b := m.see(key)
	m.right(b)
	return b
}

// rising are the members of a set.
func rising(in map[string]int) []string { return slices.Sorted(maps.Keys(in)) }

// lay is an image with a set of a key laid into it.
func (m *model) lay(l []api.Entry, key string, in map[string]int, at int) []api.Entry {
	if len(in) == 0 {
		l, _ = image.Del(l, key)
		return l
	}
	if len(in) > 65536 {
		m.fail("LARGE")
	}
	l, wrong := image.Put(l, ends(key, api.Value{Kind: 3, L: rising(in)}, at))
	if wrong == api.ErrMany {
		m.fail("FULL")
	}
	if wrong != api.OK {
		panic(wrong)
	}
	return l
}

func (m *model) tell(name, key string, l ...string) {
	m.told = append(m.told, append([]string{name, key}, l...))
}

// tellLong tells members in commands of at most a thousand.
func (m *model) tellLong(name, key string, l []string) {
	for i := 0; i < len(l); i += 1000 {
		m.tell(name, key, l[i:min(i+1000, len(l))]...)
	}
}

var numberForm = regexp.MustCompile(`\A(0|-?[1-9][0-9]*)\z`)

func (m *model) number(s string) *big.Int {
	n, _ := new(big.Int).SetString(s, 10)
	if !numberForm.MatchString(s) || !n.IsInt64() {
		m.fail("NUMBER")
	}
	return n
}

func integer(n int) api.Reply { return api.Reply{Kind: api.RInt, N: int64(n)} }

func bulk(s string) api.Reply { return api.Reply{Kind: api.RBulk, S: s} }

func array(l []string) api.Reply {
	r := api.Reply{Kind: api.RArray}
	for _, x := range l {
		r.L = append(r.L, bulk(x))
	}
	return r
}

// Draws

func big64(n uint64) *big.Int { return new(big.Int).SetUint64(n) }

// behind is the draw behind a draw.
func behind(draw *big.Int) *big.Int {
	n := new(big.Int).Mul(draw, big64(6364136223846793005))
	n.Add(n, big64(1442695040888963407))
	return n.Mod(n, new(big.Int).Lsh(big.NewInt(1), 64))
}

func modulo(draw *big.Int, n int) int {
	return int(new(big.Int).Mod(draw, big.NewInt(int64(n))).Int64())
}

// drawn are n of some members, each of which may come again (n below 0), or comes once at most: what is drawn goes, and the first one of the rest stands in its place.
func drawn(l []string, n *big.Int, draw uint64) []string {
	var out []string
	l = slices.Clone(l)
	x := big64(draw)
	for k := big.NewInt(0); len(l) > 0 && k.Cmp(new(big.Int).Abs(n)) < 0; k.Add(k, big.NewInt(1)) {
		at := modulo(x, len(l))
		out = append(out, l[at])
		if n.Sign() > 0 {
			l[at] = l[0]
			l = l[1:]
		}
		x = behind(x)
	}
	return out
}

// commands are the commands by their names.
func commands() map[string]func(m *model, a []string) api.Reply {
	return map[string]func(m *model, a []string) api.Reply{
		"sadd": modelAdd, "srem": modelRem, "smove": modelMove,
		"sismember": func(m *model, a []string) api.Reply { return integer(m.look(a[1]).in[a[2]]) },
		"smismember": func(m *model, a []string) api.Reply {
			b, r := m.look(a[1]), api.Reply{Kind: api.RArray}
			for _, x := range a[2:] {
				r.L = append(r.L, integer(b.in[x]))
			}
			return r
		},
		"scard":       func(m *model, a []string) api.Reply { return integer(len(m.look(a[1]).in)) },
		"smembers":    func(m *model, a []string) api.Reply { return array(rising(m.look(a[1]).in)) },
		"spop":        func(m *model, a []string) api.Reply { return m.draw(a, true) },
		"srandmember": func(m *model, a []string) api.Reply { return m.draw(a, false) },
		"sunion":      func(m *model, a []string) api.Reply { return array(rising(m.combined("union", m.each(a[1:])))) },
		"sinter":      func(m *model, a []string) api.Reply { return array(rising(m.combined("inter", m.each(a[1:])))) },
		"sdiff":       func(m *model, a []string) api.Reply { return array(rising(m.combined("diff", m.each(a[1:])))) },
		"sunionstore": func(m *model, a []string) api.Reply { return m.store("union", a[1], a[2:]) },
		"sinterstore": func(m *model, a []string) api.Reply { return m.store("inter", a[1], a[2:]) },
		"sdiffstore":  func(m *model, a []string) api.Reply { return m.store("diff", a[1], a[2:]) },
	}
}

func modelAdd(m *model, a []string) api.Reply {
	b := m.look(a[1])
	fresh := map[string]int{}
	for _, x := range a[2:] {
		if b.in[x] == 0 {
			fresh[x] = 1
		}
	}
	if len(fresh) > 0 {
		maps.Copy(b.in, fresh)
		m.l = m.lay(m.l, a[1], b.in, b.at)
		m.tell("SADD", a[1], rising(fresh)...)
	}
	return integer(len(fresh))
}

func modelRem(m *model, a []string) api.Reply {
	b := m.look(a[1])
	gone := map[string]int{}
	for _, x := range a[2:] {
		if b.in[x] == 1 {
			gone[x] = 1
		}
		delete(b.in, x)
	}
	if len(gone) > 0 {
		m.l = m.lay(m.l, a[1], b.in, b.at)
		m.tell("SREM", a[1], rising(gone)...)
	}
	return integer(len(gone))
}

func (m *model) draw(a []string, takesOut bool) api.Reply {
	if len(a) > 3 {
		m.fail("SYNTAX")
	}
	n := big.NewInt(1)
	if len(a) == 3 {
		n = m.number(a[2])
		if takesOut && n.Sign() < 0 {
			m.fail("NUMBER")
		}
		if n.Cmp(big.NewInt(-1024)) < 0 {
			m.fail("RANGE")
		}
	}
	b := m.look(a[1])
	out := drawn(rising(b.in), n, m.c.Draw)
	if takesOut && len(out) > 0 {
		for _, x := range out {
			delete(b.in, x)
		}
		m.l = m.lay(m.l, a[1], b.in, b.at)
		m.tellLong("SREM", a[1], slices.Sorted(slices.Values(out)))
	}
	if len(a) == 3 {
		return array(out)
	}
	if len(out) == 0 {
		return api.Reply{Kind: api.RNil}
	}
	return bulk(out[0])
}

func modelMove(m *model, a []string) api.Reply {
	from, to, x := m.see(a[1]), m.see(a[2]), a[3]
	m.right(from, to)
	if from.in[x] == 0 || a[1] == a[2] {
		return integer(from.in[x])
	}
	had := to.in[x]
	delete(from.in, x)
	to.in[x] = 1
	if len(to.in) > 65536 {
		m.fail("LARGE")
	}
	m.l = m.lay(m.lay(m.l, a[1], from.in, from.at), a[2], to.in, to.at)
	m.tell("SREM", a[1], x)
	if had == 0 {
		m.tell("SADD", a[2], x)
	}
	return integer(1)
}

// each looks at all keys; then these are to be sets.
func (m *model) each(keys []string) []bag {
	l := m.seeAll(keys)
	m.right(l...)
	return l
}

func (m *model) seeAll(keys []string) []bag {
	var l []bag
	for _, key := range keys {
		l = append(l, m.see(key))
	}
	return l
}

// combined is what is in one at least, in all, in the first one alone: by how many of all, and of the others, have it.
func (m *model) combined(how string, l []bag) map[string]int {
	count := map[string]int{}
	for _, b := range l {
		for x := range b.in {
			count[x]++
		}
	}
	in := map[string]int{}
	for x, n := range count {
		if how == "union" || how == "inter" && n == len(l) || how == "diff" && n == 1 && l[0].in[x] == 1 {
			in[x] = 1
		}
	}
	return in
}

func (m *model) store(how, key string, keys []string) api.Reply {
	l := m.seeAll(keys)
	was := m.see(key)
	m.right(l...)
	in := m.combined(how, l)
	isSame := was.kind == 3 && was.at == -1 && maps.Equal(was.in, in)
	if len(in) == 0 && was.kind == 0 || isSame {
		return integer(len(in))
	}
	m.l = m.lay(m.l, key, in, -1)
	if was.kind != 0 {
		m.tell("DEL", key)
	}
	m.tellLong("SADD", key, rising(in))
	return integer(len(in))
}
