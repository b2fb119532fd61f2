package keys_test

import (
	"math/big"
	"regexp"
	"slices"
	"strings"

	"millpond/api"
	"millpond/image"
)

// The model: a store is an image, which image's Put and Del alone change; a call is done on it as the chapter's words say.
type model struct {
	l    []api.Entry
	c    api.Call
	told [][]string
}

// arities are how many arguments each command has, below 0: at least.
var arities = map[string]int{
	"del": -2, "exists": -2, "type": 2, "expire": 3, "pexpire": 3, "expireat": 3, "pexpireat": 3, "ttl": 2, "pttl": 2, "persist": 2,
	"rename": 3, "renamenx": 3, "keys": 2, "randomkey": 1, "dbsize": 1, "flushall": 1,
}

// errors are the chapter's errors by their names; X is the command's name.
var errors = map[string]string{
	"NUMBER": "ERR value is not an integer or out of range",
	"TIME":   "ERR invalid expire time in 'X' command",
	"NOKEY":  "ERR no such key",
}

// fail ends a command with the error of a name.
func (m *model) fail(name string) {
	panic(api.Reply{Kind: api.RError, S: strings.ReplaceAll(errors[name], "X", modelLower(m.c.Args[0]))})
}

// modelLower is a text with small letters, of A to Z alone.
func modelLower(s string) string {
	b := []byte(s)
	for i := range b {
		if at := strings.IndexByte("ABCDEFGHIJKLMNOPQRSTUVWXYZ", b[i]); at >= 0 {
			b[i] = "abcdefghijklmnopqrstuvwxyz"[at]
		}
	}
	return string(b)
}

// isMine: is a call one of the package's?
func isMine(c api.Call) bool {
	if len(c.Args) == 0 || len(c.Args) > 1024 || c.Now < 0 || c.Now > 1<<40 {
		return false
	}
	if slices.ContainsFunc(c.Args, func(a string) bool { return len(a) > 65536 }) {
		return false
	}
	arity, mine := arities[modelLower(c.Args[0])]
	return mine && (len(c.Args) == arity || arity < 0 && len(c.Args) >= -arity)
}

func (m *model) do(c api.Call) (r api.Reply, told [][]string) {
	if !isMine(c) {
		return api.Reply{}, nil
	}
	m.c, m.told = c, nil
	defer func() {
		if told = m.told; r.Kind == 0 {
			r = recover().(api.Reply)
		}
	}()
	return commands()[modelLower(c.Args[0])](m, c.Args), nil
}

func (m *model) tell(words ...string) { m.told = append(m.told, words) }

func (m *model) isSeen(e api.Entry) bool {
	return m.c.Role != 1 && m.c.Role != 2 || e.At < 0 || e.At > m.c.Now
}

func (m *model) del(key string) {
	m.l, _ = image.Del(m.l, key)
	m.tell("DEL", key)
}

func (m *model) put(e api.Entry) {
	l, wrong := image.Put(m.l, e)
	if wrong != api.OK {
		panic(wrong)
	}
	m.l = l
}

// look looks at a key.
func (m *model) look(key string) (api.Entry, bool) {
	e, stands := image.Find(m.l, key)
	if stands && m.isSeen(e) {
		return e, true
	}
	if stands && m.c.Role == 1 {
		m.del(key)
	}
	return api.Entry{}, false
}

var numberForm = regexp.MustCompile(`\A(0|-?[1-9][0-9]*)\z`)

// milli is the time so many units of so many milliseconds behind another one.
func (m *model) milli(from int, text string, unit int64) int {
	n, _ := new(big.Int).SetString(text, 10)
	if !numberForm.MatchString(text) || !n.IsInt64() {
		m.fail("NUMBER")
	}
	end := big.NewInt(1 << 40)
	if n.CmpAbs(end) > 0 {
		m.fail("TIME")
	}
	n = n.Mul(n, big.NewInt(unit))
	n = n.Add(n, big.NewInt(int64(from)))
	if n.Cmp(end) > 0 {
		m.fail("TIME")
	}
	return int(max(n.Int64(), 0))
}

func (m *model) expire(key string, at int) api.Reply {
	e, there := m.look(key)
	if !there {
		return integer(0)
	}
	if at <= m.c.Now && m.c.Role != 3 {
		m.del(key)
		return integer(1)
	}
	if e.At != at {
		m.tell("PEXPIREAT", key, big.NewInt(int64(at)).String())
	}
	e.At = at
	m.put(e)
	return integer(1)
}

func (m *model) left(key string, unit int) api.Reply {
	e, there := m.look(key)
	if !there {
		return integer(-2)
	}
	if e.At < 0 {
		return integer(-1)
	}
	ms := max(e.At-m.c.Now, 0)
	if unit == 1 {
		return integer(ms)
	}
	return integer((ms + 500) / unit)
}

// rename gives another key what a key has: whether it was done.
func (m *model) rename(key, other string, onlyNew bool) bool {
	e, there := m.look(key)
	if !there {
		m.fail("NOKEY")
	}
	if key == other {
		return false
	}
	if _, taken := m.look(other); taken && onlyNew {
		return false
	}
	m.l, _ = image.Del(m.l, key)
	m.put(api.Entry{Key: other, V: e.V, At: e.At})
	m.tell("RENAME", key, other)
	return true
}

// pick picks a key by the call's draw, and by those behind it.
func (m *model) pick() api.Reply {
	draw := m.c.Draw
	for len(m.l) > 0 {
		at := int(draw % uint64(len(m.l)))
		if m.isSeen(m.l[at]) {
			return bulk(m.l[at].Key)
		}
		if m.c.Role != 1 {
			round := append(slices.Clone(m.l[at:]), m.l[:at]...)
			if i := slices.IndexFunc(round, m.isSeen); i >= 0 {
				return bulk(round[i].Key)
			}
			break
		}
		m.del(m.l[at].Key)
		draw = draw*6364136223846793005 + 1442695040888963407
	}
	return api.Reply{Kind: api.RNil}
}

func integer(n int) api.Reply { return api.Reply{Kind: api.RInt, N: int64(n)} }

func bulk(s string) api.Reply { return api.Reply{Kind: api.RBulk, S: s} }

func simple(s string) api.Reply { return api.Reply{Kind: api.RSimple, S: s} }

// commands are the commands by their names.
func commands() map[string]func(m *model, a []string) api.Reply {
	return map[string]func(m *model, a []string) api.Reply{
		"del": func(m *model, a []string) api.Reply {
			n := 0
			for _, key := range a[1:] {
				if _, there := m.look(key); there {
					m.del(key)
					n++
				}
			}
			return integer(n)
		},
		"exists": func(m *model, a []string) api.Reply {
			n := 0
			for _, key := range a[1:] {
				if _, there := m.look(key); there {
					n++
				}
			}
			return integer(n)
		},
		"type": func(m *model, a []string) api.Reply {
			e, _ := m.look(a[1])
			return simple(map[api.Kind]string{0: "none", 1: "string", 2: "list", 3: "set", 4: "zset", 5: "hash"}[e.V.Kind])
		},
		"expire":    func(m *model, a []string) api.Reply { return m.expire(a[1], m.milli(m.c.Now, a[2], 1000)) },
		"pexpire":   func(m *model, a []string) api.Reply { return m.expire(a[1], m.milli(m.c.Now, a[2], 1)) },
		"expireat":  func(m *model, a []string) api.Reply { return m.expire(a[1], m.milli(0, a[2], 1000)) },
		"pexpireat": func(m *model, a []string) api.Reply { return m.expire(a[1], m.milli(0, a[2], 1)) },
		"ttl":       func(m *model, a []string) api.Reply { return m.left(a[1], 1000) },
		"pttl":      func(m *model, a []string) api.Reply { return m.left(a[1], 1) },
		"persist": func(m *model, a []string) api.Reply {
			e, there := m.look(a[1])
			if !there || e.At < 0 {
				return integer(0)
			}
			e.At = -1
			m.put(e)
			m.tell("PERSIST", a[1])
			return integer(1)
		},
		"rename": func(m *model, a []string) api.Reply {
			m.rename(a[1], a[2], false)
			return simple("OK")
		},
		"renamenx": func(m *model, a []string) api.Reply {
			if m.rename(a[1], a[2], true) {
				return integer(1)
			}
			return integer(0)
		},
		"keys": func(m *model, a []string) api.Reply {
			r := api.Reply{Kind: api.RArray}
			for _, e := range m.l {
				if m.isSeen(e) && matches(a[1], e.Key) {
					r.L = append(r.L, bulk(e.Key))
				}
			}
			return r
		},
		"randomkey": func(m *model, _ []string) api.Reply { return m.pick() },
		"dbsize":    func(m *model, _ []string) api.Reply { return integer(len(m.l)) },
		"flushall": func(m *model, _ []string) api.Reply {
			if len(m.l) > 0 {
				m.tell("FLUSHALL")
			}
			m.l = nil
			return simple("OK")
		},
	}
}

// matches: is a text what a pattern's parts match, one behind the other?
func matches(p, s string) bool {
	switch {
	case p == "":
		return s == ""
	case p[0] == '*':
		return matches(p[1:], s) || s != "" && matches(p, s[1:])
	case s == "":
		return false
	case p[0] == '?':
		return matches(p[1:], s[1:])
	case p[0] == '[':
		has, rest := class(p[1:], s[0])
		return has && matches(rest, s[1:])
	case p[0] == '\\' && len(p) > 1:
		p = p[1:]
	}
	return p[0] == s[0] && matches(p[1:], s[1:])
}

// class: does a class match a byte? And what stands behind it.
func class(p string, c byte) (bool, string) {
	p, not := strings.CutPrefix(p, "^")
	has := false
	for p != "" && p[0] != ']' {
		switch {
		case p[0] == '\\' && len(p) > 1:
			has, p = has || p[1] == c, p[2:]
		case len(p) > 2 && p[1] == '-':
			has, p = has || min(p[0], p[2]) <= c && c <= max(p[0], p[2]), p[3:]
		default:
			has, p = has || p[0] == c, p[1:]
		}
	}
	return has != not, strings.TrimPrefix(p, "]")
}
