package hashes_test

import (
	"maps"
	"math/big"
	"regexp"
	"slices"
	"strings"

	"millpond/api"
	"millpond/image"
)

// The model: a store is an image, which image's Put and Del alone change; a call is done on it as the chapter's words say.
type model struct {
	l    []api.Entry
	c    api.Call
	told [][]string
}

// arities are how many arguments each command has, below 0: at least.
var arities = map[string]int{
	"hset": -4, "hsetnx": 4, "hget": 3, "hmget": -3, "hdel": -3, "hexists": 3,
	"hlen": 2, "hkeys": 2, "hvals": 2, "hgetall": 2, "hincrby": 4, "hstrlen": 3,
}

// errors are the chapter's errors by their names.
var errors = map[string]string{
	"WRONG":  "WRONGTYPE Operation against a key holding the wrong kind of value",
	"NUMBER": "ERR value is not an integer or out of range",
	"PAIRS":  "ERR wrong number of arguments for 'hset' command",
	"HASH":   "ERR hash value is not an integer",
	"OVER":   "ERR increment or decrement would overflow",
	"LARGE":  "ERR collection is too large",
	"FULL":   "ERR store is full",
}

// fail ends a command with the error of a name.
func (m *model) fail(name string) { panic(api.Reply{Kind: api.RError, S: errors[name]}) }

// modelLower is a text with small letters, of A to Z alone.
func modelLower(s string) string {
	b := []byte(s)
	for i := range b {
		if at := strings.IndexByte("ABCDEFGHIJKLMNOPQRSTUVWXYZ", b[i]); at >= 0 {
			b[i] = "abcdefghijklmnopqrstuvwxyz"[at]
		}
	}
	return string(b)
}

// isMine: is a call one of the package's?
func isMine(c api.Call) bool {
	if len(c.Args) == 0 || len(c.Args) > 1024 || c.Now < 0 || c.Now > 1<<40 {
		return false
	}
	if slices.ContainsFunc(c.Args, func(a string) bool { return len(a) > 65536 }) {
		return false
	}
	arity, mine := arities[modelLower(c.Args[0])]
	return mine && (len(c.Args) == arity || arity < 0 && len(c.Args) >= -arity)
}

func (m *model) do(c api.Call) (r api.Reply, told [][]string) {
	if !isMine(c) {
		return api.Reply{}, nil
	}
	m.c, m.told = c, nil
	defer func() {
		if told = m.told; r.Kind == 0 {
			r = recover().(api.Reply)
		}
	}()
	return commands()[modelLower(c.Args[0])](m, c.Args), nil
}

// fields is a hash, as it was looked at: what each of its fields has.
type fields struct {
	v   map[string]string
	key string
	at  int
}

// look looks at a key that is to be a hash, if it is there.
func (m *model) look(key string) fields {
	e, stands := image.Find(m.l, key)
	isOver := stands && e.At >= 0 && e.At <= m.c.Now
	if isOver && m.c.Role == 1 {
		m.l, _ = image.Del(m.l, key)
		m.told = append(m.told, []string{"DEL", key})
	}
	h := fields{map[string]string{}, key, -1}
	if !stands || isOver && (m.c.Role == 1 || m.c.Role == 2) {
		return h
	}
	if e.V.Kind != api.KHash {
		m.fail("WRONG")
	}
	for _, f := range e.V.H {
		h.v[f.F] = f.V
	}
	h.at = e.At
	return h
}

// names are the names of fields, rising.
func (h fields) names() []string { return slices.Sorted(maps.Keys(h.v)) }

// lay lays what became of a hash.
func (m *model) lay(h fields) {
	if len(h.v) > 65536 {
		m.fail("LARGE")
	}
	l, _ := image.Del(m.l, h.key)
	if len(h.v) > 0 {
		e := ends(h.key, api.Value{Kind: api.KHash}, h.at)
		for _, name := range h.names() {
			e.V.H = append(e.V.H, api.Field{F: name, V: h.v[name]})
		}
		var wrong api.Errno
		l, wrong = image.Put(l, e)
		if wrong == api.ErrMany {
			m.fail("FULL")
		}
		if wrong != api.OK {
			panic(wrong)
		}
	}
	m.l = l
}

// set gives fields of a hash, one behind the other, what stands behind them, and tells those that are others in the end: how many are new.
func (m *model) set(h fields, pairs ...string) int {
	was := maps.Clone(h.v)
	for i := 0; i < len(pairs); i += 2 {
		h.v[pairs[i]] = pairs[i+1]
	}
	told := []string{"HSET", h.key}
	for _, name := range h.names() {
		if v, there := was[name]; !there || v != h.v[name] {
			told = append(told, name, h.v[name])
		}
	}
	if len(told) > 2 {
		m.lay(h)
		m.told = append(m.told, told)
	}
	return len(h.v) - len(was)
}

var numberForm = regexp.MustCompile(`\A(0|-?[1-9][0-9]*)\z`)

// number is the number of a text, which fails by an error's name.
func (m *model) number(s, name string) *big.Int {
	n, _ := new(big.Int).SetString(s, 10)
	if !numberForm.MatchString(s) || !n.IsInt64() {
		m.fail(name)
	}
	return n
}

func integer(n int) api.Reply { return api.Reply{Kind: api.RInt, N: int64(n)} }

func bulk(s string) api.Reply { return api.Reply{Kind: api.RBulk, S: s} }

// of is the reply of what a field has.
func (h fields) of(name string) api.Reply {
	if v, there := h.v[name]; there {
		return bulk(v)
	}
	return api.Reply{Kind: api.RNil}
}

// commands are the commands by their names.
func commands() map[string]func(m *model, a []string) api.Reply {
	return map[string]func(m *model, a []string) api.Reply{
		"hset": func(m *model, a []string) api.Reply {
			if len(a)%2 == 1 {
				m.fail("PAIRS")
			}
			return integer(m.set(m.look(a[1]), a[2:]...))
		},
		"hsetnx": func(m *model, a []string) api.Reply {
			h := m.look(a[1])
			if _, there := h.v[a[2]]; there {
				return integer(0)
			}
			h.v[a[2]] = a[3]
			m.lay(h)
			m.told = append(m.told, []string{"HSET", a[1], a[2], a[3]})
			return integer(1)
		},
		"hget": func(m *model, a []string) api.Reply { return m.look(a[1]).of(a[2]) },
		"hmget": func(m *model, a []string) api.Reply {
			h, r := m.look(a[1]), api.Reply{Kind: api.RArray}
			for _, name := range a[2:] {
				r.L = append(r.L, h.of(name))
			}
			return r
		},
		"hexists": func(m *model, a []string) api.Reply {
			if _, there := m.look(a[1]).v[a[2]]; there {
				return integer(1)
			}
			return integer(0)
		},
		"hlen":    func(m *model, a []string) api.Reply { return integer(len(m.look(a[1]).v)) },
		"hstrlen": func(m *model, a []string) api.Reply { return integer(len(m.look(a[1]).v[a[2]])) },
		"hkeys":   func(m *model, a []string) api.Reply { return modelAll(m.look(a[1]), true, false) },
		"hvals":   func(m *model, a []string) api.Reply { return modelAll(m.look(a[1]), false, true) },
		"hgetall": func(m *model, a []string) api.Reply { return modelAll(m.look(a[1]), true, true) },
		"hdel":    modelDel,
		"hincrby": modelCount,
	}
}

func modelAll(h fields, names, values bool) api.Reply {
	r := api.Reply{Kind: api.RArray}
	for _, name := range h.names() {
		if names {
			r.L = append(r.L, bulk(name))
		}
		if values {
			r.L = append(r.L, bulk(h.v[name]))
		}
	}
	return r
}

func modelDel(m *model, a []string) api.Reply {
	h := m.look(a[1])
	told := []string{"HDEL", a[1]}
	for _, name := range slices.Compact(slices.Sorted(slices.Values(a[2:]))) {
		if _, there := h.v[name]; there {
			delete(h.v, name)
			told = append(told, name)
		}
	}
	if len(told) > 2 {
		m.lay(h)
		m.told = append(m.told, told)
	}
	return integer(len(told) - 2)
}

func modelCount(m *model, a []string) api.Reply {
	by := m.number(a[3], "NUMBER")
	h := m.look(a[1])
	v, there := h.v[a[2]]
	if !there {
		v = "0"
	}
	n := m.number(v, "HASH")
	n = n.Add(n, by)
	if !n.IsInt64() {
		m.fail("OVER")
	}
	m.set(h, a[2], n.String())
	return api.Reply{Kind: api.RInt, N: n.Int64()}
}
