package lists_test

import (
	"math/big"
	"regexp"
	"slices"
	"strconv"
	"strings"

	"millpond/api"
	"millpond/image"
)

// The model: a store is an image, which image's Put and Del alone change; a call is done on it as the chapter's words say.
type model struct {
	l    []api.Entry
	c    api.Call
	told [][]string
}

// arities are how many arguments each command has, below 0: at least.
var arities = map[string]int{
	"lpush": -3, "rpush": -3, "lpushx": -3, "rpushx": -3, "lpop": -2, "rpop": -2, "llen": 2, "lrange": 4, "lindex": 3,
	"lset": 4, "lrem": 4, "ltrim": 4, "linsert": 5, "rpoplpush": 3, "lmove": 5,
}

// errors are the chapter's errors by their names; those that name a command have its name for an X.
var errors = map[string]string{
	"WRONG":  "WRONGTYPE Operation against a key holding the wrong kind of value",
	"NUMBER": "ERR value is not an integer or out of range",
	"SYNTAX": "ERR syntax error",
	"NOKEY":  "ERR no such key",
	"INDEX":  "ERR index out of range",
	"COUNT":  "ERR value is out of range, must be positive",
	"LARGE":  "ERR collection is too large",
	"FULL":   "ERR store is full",
	"ARGS":   "ERR wrong number of arguments for 'X' command",
}

// fail ends a command with the error of a name.
func (m *model) fail(name string) {
	panic(api.Reply{Kind: api.RError, S: strings.ReplaceAll(errors[name], "X", modelLower(m.c.Args[0]))})
}

// modelLower is a text with small letters, of A to Z alone.
func modelLower(s string) string {
	b := []byte(s)
	for i := range b {
		if at := strings.IndexByte("ABCDEFGHIJKLMNOPQRSTUVWXYZ", b[i]); at >= 0 {
			b[i] = "abcdefghijklmnopqrstuvwxyz"[at]
		}
	}
	return string(b)
}

// isMine: is a call one of the package's?
func isMine(c api.Call) bool {
	if len(c.Args) == 0 || len(c.Args) > 1024 || c.Now < 0 || c.Now > 1<<40 {
		return false
	}
	if slices.ContainsFunc(c.Args, func(a string) bool { return len(a) > 65536 }) {
		return false
	}
	arity, mine := arities[modelLower(c.Args[0])]
	return mine && (len(c.Args) == arity || arity < 0 && len(c.Args) >= -arity)
}

func (m *model) do(c api.Call) (r api.Reply, told [][]string) {
	if !isMine(c) {
		return api.Reply{}, nil
	}
	m.c, m.told = c, nil
	defer func() {
		if told = m.told; r.Kind == 0 {
			r = recover().(api.Reply)
		}
	}()
	return commands()[modelLower(c.Args[0])](m, c.Args), nil
}

// look looks at a key that is to be a list, if it is there: its items, and its end.
func (m *model) look(key string) (items []string, at int, there bool) {
	e, stands := image.Find(m.l, key)
	isOver := stands && e.At >= 0 && e.At <= m.c.Now
	if isOver && m.c.Role == 1 {
		m.l, _ = image.Del(m.l, key)
		m.told = append(m.told, []string{"DEL", key})
	}
	if !stands || isOver && (m.c.Role == 1 || m.c.Role == 2) {
		return nil, -1, false
	}
	if e.V.Kind != api.KList {
		m.fail("WRONG")
	}
	return slices.Clone(e.V.L), e.At, true
}

// lay is an image with a list of a key laid into it.
func (m *model) lay(l []api.Entry, key string, items []string, at int) []api.Entry {
	if len(items) == 0 {
		l, _ = image.Del(l, key)
		return l
	}
	if len(items) > 65536 {
		m.fail("LARGE")
	}
	l, wrong := image.Put(l, ends(key, list(items...), at))
	if wrong == api.ErrMany {
		m.fail("FULL")
	}
	if wrong != api.OK {
		panic(wrong)
	}
	return l
}

// become lays a list; if that changes it, the command is told.
func (m *model) become(told []string, key string, items []string, at int) {
	was, _ := image.Find(m.l, key)
	if slices.Equal(was.V.L, items) && was.At == at {
		return
	}
	m.l = m.lay(m.l, key, items, at)
	m.told = append(m.told, told)
}

// asItIs is the command, its name in great letters.
func (m *model) asItIs() []string {
	return append([]string{strings.ToUpper(m.c.Args[0])}, m.c.Args[1:]...)
}

var numberForm = regexp.MustCompile(`\A(0|-?[1-9][0-9]*)\z`)

func (m *model) number(s string) *big.Int {
	n, _ := new(big.Int).SetString(s, 10)
	if !numberForm.MatchString(s) || !n.IsInt64() {
		m.fail("NUMBER")
	}
	return n
}

func (m *model) count(s string) *big.Int {
	n, _ := new(big.Int).SetString(s, 10)
	if !numberForm.MatchString(s) || !n.IsInt64() || n.Sign() < 0 {
		m.fail("COUNT")
	}
	return n
}

// isAt: is i the place that a number names, of so many?
func isAt(n *big.Int, i, count int) bool {
	return n.Cmp(big.NewInt(int64(i))) == 0 || n.Cmp(big.NewInt(int64(i-count))) == 0
}

// placeOf is the place that a number names, or -1.
func placeOf(n *big.Int, items []string) int {
	for i := range items {
		if isAt(n, i, len(items)) {
			return i
		}
	}
	return -1
}

// within are the items whose places stand between two numbers.
func within(first, last *big.Int, items []string) []string {
	var l []string
	for i, item := range items {
		behind := first.Cmp(big.NewInt(int64(i))) <= 0 && first.Sign() >= 0 || first.Sign() < 0 && first.Cmp(big.NewInt(int64(i-len(items)))) <= 0
		ahead := last.Cmp(big.NewInt(int64(i))) >= 0 || last.Sign() < 0 && last.Cmp(big.NewInt(int64(i-len(items)))) >= 0
		if behind && ahead {
			l = append(l, item)
		}
	}
	return l
}

func integer(n int) api.Reply { return api.Reply{Kind: api.RInt, N: int64(n)} }

func simpleOK() api.Reply { return api.Reply{Kind: api.RSimple, S: "OK"} }

func bulk(s string) api.Reply { return api.Reply{Kind: api.RBulk, S: s} }

func noBulk() api.Reply { return api.Reply{Kind: api.RNil} }

func array(items []string) api.Reply {
	r := api.Reply{Kind: api.RArray}
	for _, item := range items {
		r.L = append(r.L, bulk(item))
	}
	return r
}

// commands are the commands by their names.
func commands() map[string]func(m *model, a []string) api.Reply {
	return map[string]func(m *model, a []string) api.Reply{
		"lpush":     func(m *model, a []string) api.Reply { return m.push("L", a[1], a[2:]) },
		"rpush":     func(m *model, a []string) api.Reply { return m.push("R", a[1], a[2:]) },
		"lpushx":    func(m *model, a []string) api.Reply { return m.pushX("L", a[1], a[2:]) },
		"rpushx":    func(m *model, a []string) api.Reply { return m.pushX("R", a[1], a[2:]) },
		"lpop":      func(m *model, a []string) api.Reply { return m.pop("L", a) },
		"rpop":      func(m *model, a []string) api.Reply { return m.pop("R", a) },
		"lrem":      modelRem,
		"linsert":   modelInsert,
		"rpoplpush": func(m *model, a []string) api.Reply { return m.move(a[1], a[2], "RIGHT", "LEFT") },
		"lmove": func(m *model, a []string) api.Reply {
			return m.move(a[1], a[2], m.side(a[3]), m.side(a[4]))
		},
		"llen": func(m *model, a []string) api.Reply {
			items, _, _ := m.look(a[1])
			return integer(len(items))
		},
		"lrange": func(m *model, a []string) api.Reply {
			first, last := m.number(a[2]), m.number(a[3])
			items, _, _ := m.look(a[1])
			return array(within(first, last, items))
		},
		"ltrim": func(m *model, a []string) api.Reply {
			first, last := m.number(a[2]), m.number(a[3])
			if items, at, there := m.look(a[1]); there {
				m.become(m.asItIs(), a[1], within(first, last, items), at)
			}
			return simpleOK()
		},
		"lindex": func(m *model, a []string) api.Reply {
			n := m.number(a[2])
			items, _, _ := m.look(a[1])
			if i := placeOf(n, items); i >= 0 {
				return bulk(items[i])
			}
			return noBulk()
		},
		"lset": func(m *model, a []string) api.Reply {
			n := m.number(a[2])
			items, at, there := m.look(a[1])
			if !there {
				m.fail("NOKEY")
			}
			i := placeOf(n, items)
			if i < 0 {
				m.fail("INDEX")
			}
			items[i] = a[3]
			m.become(m.asItIs(), a[1], items, at)
			return simpleOK()
		},
	}
}

func (m *model) push(letter, key string, more []string) api.Reply {
	items, at, _ := m.look(key)
	for _, item := range more {
		if letter == "L" {
			items = slices.Insert(items, 0, item)
		} else {
			items = slices.Insert(items, len(items), item)
		}
	}
	m.become(append([]string{letter + "PUSH", key}, more...), key, items, at)
	return integer(len(items))
}

func (m *model) pushX(letter, key string, more []string) api.Reply {
	if _, _, there := m.look(key); !there {
		return integer(0)
	}
	return m.push(letter, key, more)
}

// popped are the items that are taken out, one by one, and those that stay.
func popped(letter string, items []string, most *big.Int) (out, rest []string) {
	rest = slices.Clone(items)
	for len(rest) > 0 && most.Cmp(big.NewInt(int64(len(out)))) > 0 {
		i := 0
		if letter == "R" {
			i = len(rest) - 1
		}
		out = append(out, rest[i])
		rest = slices.Delete(rest, i, i+1)
	}
	return out, rest
}

func (m *model) pop(letter string, a []string) api.Reply {
	if len(a) > 3 {
		m.fail("ARGS")
	}
	most, told := big.NewInt(1), []string{letter + "POP", a[1]}
	if len(a) == 3 {
		most = m.count(a[2])
	}
	items, at, there := m.look(a[1])
	if !there && len(a) == 3 {
		return api.Reply{Kind: api.RNilArray}
	}
	if !there {
		return noBulk()
	}
	out, rest := popped(letter, items, most)
	if len(a) == 3 {
		told = append(told, strconv.Itoa(len(out)))
	}
	m.become(told, a[1], rest, at)
	if len(a) == 3 {
		return array(out)
	}
	return bulk(out[0])
}

// modelRem: items are marked, from either end, and those that are not stay.
func modelRem(m *model, a []string) api.Reply {
	n := m.number(a[2])
	items, at, there := m.look(a[1])
	marked := make([]bool, len(items))
	most := new(big.Int).Abs(n)
	count := 0
	for i := range items {
		if n.Sign() < 0 {
			i = len(items) - 1 - i
		}
		if items[i] == a[3] && (n.Sign() == 0 || most.Cmp(big.NewInt(int64(count))) > 0) {
			marked[i] = true
			count++
		}
	}
	var rest []string
	for i, item := range items {
		if !marked[i] {
			rest = append(rest, item)
		}
	}
	if there {
		m.become(m.asItIs(), a[1], rest, at)
	}
	return integer(count)
}

func modelInsert(m *model, a []string) api.Reply {
	word := modelLower(a[2])
	if word != "before" && word != "after" {
		m.fail("SYNTAX")
	}
	items, at, there := m.look(a[1])
	if !there {
		return integer(0)
	}
	var with []string
	done := false
	for _, item := range items {
		switch {
		case done || item != a[3]:
			with = append(with, item)
		case word == "before":
			with, done = append(with, a[4], item), true
		default:
			with, done = append(with, item, a[4]), true
		}
	}
	if !done {
		return integer(-1)
	}
	m.become(m.asItIs(), a[1], with, at)
	return integer(len(with))
}

func (m *model) side(word string) string {
	switch modelLower(word) {
	case "left":
		return "LEFT"
	case "right":
		return "RIGHT"
	}
	m.fail("SYNTAX")
	return ""
}

// moved is a list with an item at a side.
func moved(items []string, to, item string) []string {
	if to == "LEFT" {
		return append([]string{item}, items...)
	}
	return append(slices.Clone(items), item)
}

func (m *model) move(key, other, from, to string) api.Reply {
	items, at, there := m.look(key)
	if !there {
		return noBulk()
	}
	told := []string{"LMOVE", key, other, from, to}
	out, rest := popped(from[:1], items, big.NewInt(1))
	if key == other {
		m.become(told, key, moved(rest, to, out[0]), at)
		return bulk(out[0])
	}
	others, otherAt, _ := m.look(other)
	others = moved(others, to, out[0])
	if len(others) > 65536 {
		m.fail("LARGE")
	}
	m.l = m.lay(m.lay(m.l, key, rest, at), other, others, otherAt)
	m.told = append(m.told, told)
	return bulk(out[0])
}
