package strs_test

import (
	"math/big"
	"regexp"
	"slices"
	"strings"

	"millpond/api"
	"millpond/image"
)

// The model: a store is an image, which image's Put and Del alone change; a call is done on it as the chapter's words say.
type model struct {
	l    []api.Entry
	c    api.Call
	told [][]string
}

// arities are how many arguments each command has, below 0: at least.
var arities = map[string]int{
	"get": 2, "set": -3, "getset": 3, "getdel": 2, "setnx": 3, "setex": 4, "psetex": 4, "mget": -2, "mset": -3, "msetnx": -3,
	"append": 3, "strlen": 2, "getrange": 4, "setrange": 4, "incr": 2, "decr": 2, "incrby": 3, "decrby": 3,
}

// errors are the chapter's errors by their names; those that name a command have its name for an X.
var errors = map[string]string{
	"WRONG":  "WRONGTYPE Operation against a key holding the wrong kind of value",
	"NUMBER": "ERR value is not an integer or out of range",
	"SYNTAX": "ERR syntax error",
	"OVER":   "ERR increment or decrement would overflow",
	"LONG":   "ERR string exceeds maximum allowed size",
	"FULL":   "ERR store is full",
	"TIME":   "ERR invalid expire time in 'X' command",
	"ARGS":   "ERR wrong number of arguments for 'X' command",
	"OFFSET": "ERR offset is out of range",
}

// fail ends a command with the error of a name.
func (m *model) fail(name string) {
	panic(api.Reply{Kind: api.RError, S: strings.ReplaceAll(errors[name], "X", modelLower(m.c.Args[0]))})
}

// modelLower is a text with small letters, of A to Z alone.
func modelLower(s string) string {
	b := []byte(s)
	for i := range b {
		if at := strings.IndexByte("ABCDEFGHIJKLMNOPQRSTUVWXYZ", b[i]); at >= 0 {
			b[i] = "abcdefghijklmnopqrstuvwxyz"[at]
		}
	}
	return string(b)
}

// isMine: is a call one of the package's?
func isMine(c api.Call) bool {
	if len(c.Args) == 0 || len(c.Args) > 1024 || c.Now < 0 || c.Now > 1<<40 {
		return false
	}
	if slices.ContainsFunc(c.Args, func(a string) bool { return len(a) > 65536 }) {
		return false
	}
	arity, mine := arities[modelLower(c.Args[0])]
	return mine && (len(c.Args) == arity || arity < 0 && len(c.Args) >= -arity)
}

func (m *model) do(c api.Call) (r api.Reply, told [][]string) {
	if !isMine(c) {
		return api.Reply{}, nil
	}
	m.c, m.told = c, nil
	defer func() {
		if told = m.told; r.Kind == 0 {
			r = recover().(api.Reply)
		}
	}()
	return commands()[modelLower(c.Args[0])](m, c.Args), nil
}

// look looks at a key: its value, and its end; there: it is there for the call.
func (m *model) look(key string) (v api.Value, at int, there bool) {
	e, stands := image.Find(m.l, key)
	isOver := stands && e.At >= 0 && e.At <= m.c.Now
	switch {
	case stands && !(isOver && (m.c.Role == 1 || m.c.Role == 2)):
		return e.V, e.At, true
	case isOver && m.c.Role == 1:
		m.l, _ = image.Del(m.l, key)
		m.told = append(m.told, []string{"DEL", key})
	}
	return api.Value{}, -1, false
}

// text looks at a key that is to be a string, if it is there.
func (m *model) text(key string) (s string, at int, there bool) {
	v, at, there := m.look(key)
	if there && v.Kind != api.KString {
		m.fail("WRONG")
	}
	return v.S, at, there
}

// become lays entries into the image; if that changes it, the command is told.
func (m *model) become(told []string, entries ...api.Entry) {
	after := m.l
	for _, e := range entries {
		with, wrong := image.Put(after, e)
		if wrong == api.ErrMany {
			m.fail("FULL")
		}
		if wrong != api.OK {
			panic(wrong)
		}
		after = with
	}
	if !image.Same(m.l, after) {
		m.told = append(m.told, told)
	}
	m.l = after
}

// becomeText gives a key a text and an end, told as SET.
func (m *model) becomeText(key, s string, at int) {
	told := []string{"SET", key, s}
	if at != -1 {
		told = append(told, "PXAT", big.NewInt(int64(at)).String())
	}
	m.become(told, ends(key, str(s), at))
}

var numberForm = regexp.MustCompile(`\A(0|-?[1-9][0-9]*)\z`)

// number is a number of an argument, or of a value.
func (m *model) number(s string) *big.Int {
	n, _ := new(big.Int).SetString(s, 10)
	if !numberForm.MatchString(s) || !n.IsInt64() {
		m.fail("NUMBER")
	}
	return n
}

// time is when a key ends by an option.
func (m *model) time(option, text string) int {
	n := m.number(text)
	if isLess(n, 1) && (option == "ex" || option == "px") || isLess(n, 0) {
		m.fail("TIME")
	}
	if option == "ex" || option == "exat" {
		n.Mul(n, big.NewInt(1000))
	}
	if option == "ex" || option == "px" {
		n.Add(n, big.NewInt(int64(m.c.Now)))
	}
	if !isLess(n, 1<<40+1) {
		m.fail("TIME")
	}
	return int(n.Int64())
}

func isLess(n *big.Int, than int64) bool { return n.Cmp(big.NewInt(than)) < 0 }

func integer(n int) api.Reply { return api.Reply{Kind: api.RInt, N: int64(n)} }

func simpleOK() api.Reply { return api.Reply{Kind: api.RSimple, S: "OK"} }

// bulk is a text, or nil.
func bulk(s string, there bool) api.Reply {
	if there {
		return api.Reply{Kind: api.RBulk, S: s}
	}
	return api.Reply{Kind: api.RNil}
}

// commands are the commands by their names.
func commands() map[string]func(m *model, a []string) api.Reply {
	return map[string]func(m *model, a []string) api.Reply{
		"get": func(m *model, a []string) api.Reply {
			s, _, there := m.text(a[1])
			return bulk(s, there)
		},
		"set": modelSet,
		"getset": func(m *model, a []string) api.Reply {
			s, _, there := m.text(a[1])
			m.becomeText(a[1], a[2], -1)
			return bulk(s, there)
		},
		"getdel": func(m *model, a []string) api.Reply {
			s, _, there := m.text(a[1])
			if there {
				m.l, _ = image.Del(m.l, a[1])
				m.told = append(m.told, []string{"DEL", a[1]})
			}
			return bulk(s, there)
		},
		"setnx": func(m *model, a []string) api.Reply {
			if _, _, there := m.look(a[1]); there {
				return integer(0)
			}
			m.becomeText(a[1], a[2], -1)
			return integer(1)
		},
		"setex":  func(m *model, a []string) api.Reply { return m.setEnding("ex", a[1], a[2], a[3]) },
		"psetex": func(m *model, a []string) api.Reply { return m.setEnding("px", a[1], a[2], a[3]) },
		"mget": func(m *model, a []string) api.Reply {
			r := api.Reply{Kind: api.RArray}
			for _, key := range a[1:] {
				v, _, there := m.look(key)
				r.L = append(r.L, bulk(v.S, there && v.Kind == api.KString))
			}
			return r
		},
		"mset": func(m *model, a []string) api.Reply {
			m.setPairs(a[1:])
			return simpleOK()
		},
		"msetnx": func(m *model, a []string) api.Reply {
			if len(a)%2 == 0 {
				m.fail("ARGS")
			}
			old := 0
			for i := 1; i < len(a); i += 2 {
				if _, _, there := m.look(a[i]); there {
					old++
				}
			}
			if old > 0 {
				return integer(0)
			}
			m.setPairs(a[1:])
			return integer(1)
		},
		"append": func(m *model, a []string) api.Reply {
			s, at, _ := m.text(a[1])
			if len(s)+len(a[2]) > 65536 {
				m.fail("LONG")
			}
			m.become([]string{"APPEND", a[1], a[2]}, ends(a[1], str(s+a[2]), at))
			return integer(len(s + a[2]))
		},
		"strlen": func(m *model, a []string) api.Reply {
			s, _, _ := m.text(a[1])
			return integer(len(s))
		},
		"getrange": modelGetRange,
		"setrange": modelSetRange,
		"incr":     func(m *model, a []string) api.Reply { return m.count(a[1], "1", 1) },
		"decr":     func(m *model, a []string) api.Reply { return m.count(a[1], "1", -1) },
		"incrby":   func(m *model, a []string) api.Reply { return m.count(a[1], a[2], 1) },
		"decrby":   func(m *model, a []string) api.Reply { return m.count(a[1], a[2], -1) },
	}
}

// modelOptions are the words behind SET key v, each option with its number; those of which nothing is known are told as `?`.
func modelOptions(words []string) []string {
	var l []string
	for len(words) > 0 {
		word := modelLower(words[0])
		words = words[1:]
		switch {
		case word == "nx" || word == "xx" || word == "get" || word == "keepttl":
			l = append(l, word)
		case slices.Contains([]string{"ex", "px", "exat", "pxat"}, word) && len(words) > 0:
			l = append(l, word+" "+words[0])
			words = words[1:]
		default:
			l = append(l, "?")
		}
	}
	return l
}

func modelSet(m *model, a []string) api.Reply {
	options := modelOptions(a[3:])
	has := func(word string) bool { return slices.Contains(options, word) }
	five := slices.DeleteFunc(slices.Clone(options), func(o string) bool { return o == "nx" || o == "xx" || o == "get" })
	if has("?") || has("nx") && has("xx") || len(five) > 1 {
		m.fail("SYNTAX")
	}
	at := -1
	if len(five) == 1 && !has("keepttl") {
		option, n, _ := strings.Cut(five[0], " ")
		at = m.time(option, n)
	}
	v, was, there := m.look(a[1])
	if has("get") && there && v.Kind != api.KString {
		m.fail("WRONG")
	}
	if has("nx") && there || has("xx") && !there {
		return bulk(v.S, there && has("get"))
	}
	if has("keepttl") {
		at = was
	}
	m.becomeText(a[1], a[2], at)
	if has("get") {
		return bulk(v.S, there)
	}
	return simpleOK()
}

func (m *model) setEnding(option, key, n, s string) api.Reply {
	at := m.time(option, n)
	m.look(key)
	m.becomeText(key, s, at)
	return simpleOK()
}

func (m *model) setPairs(words []string) {
	if len(words)%2 == 1 {
		m.fail("ARGS")
	}
	var l []api.Entry
	for i := 0; i < len(words); i += 2 {
		l = append(l, stay(words[i], str(words[i+1])))
	}
	m.become(append([]string{"MSET"}, words...), l...)
}

// modelGetRange: each byte is asked whether it stands between the ends.
func modelGetRange(m *model, a []string) api.Reply {
	first, last := m.number(a[2]), m.number(a[3])
	s, _, _ := m.text(a[1])
	for _, n := range []*big.Int{first, last} {
		if n.Sign() < 0 {
			n.Add(n, big.NewInt(int64(len(s))))
		}
	}
	from, to := first.Int64(), last.Int64()
	var got []byte
	for i := range len(s) {
		if from <= int64(i) && int64(i) <= to {
			got = append(got, s[i])
		}
	}
	return bulk(string(got), true)
}

// modelSetRange: byte by byte.
func modelSetRange(m *model, a []string) api.Reply {
	n := m.number(a[2])
	if n.Sign() < 0 {
		m.fail("OFFSET")
	}
	s, at, _ := m.text(a[1])
	if a[3] == "" {
		return integer(len(s))
	}
	end := new(big.Int).Add(n, big.NewInt(int64(len(a[3]))))
	if !isLess(end, 65536+1) {
		m.fail("LONG")
	}
	b := []byte(s)
	for i := range len(a[3]) {
		place := int(n.Int64()) + i
		for len(b) <= place {
			b = append(b, 0)
		}
		b[place] = a[3][i]
	}
	m.become([]string{"SETRANGE", a[1], a[2], a[3]}, ends(a[1], str(string(b)), at))
	return integer(len(b))
}

func (m *model) count(key, n string, sign int64) api.Reply {
	step := m.number(n)
	s, at, there := m.text(key)
	if !there {
		s = "0"
	}
	value := m.number(s)
	value.Add(value, step.Mul(step, big.NewInt(sign)))
	if !value.IsInt64() {
		m.fail("OVER")
	}
	m.becomeText(key, value.String(), at)
	return api.Reply{Kind: api.RInt, N: value.Int64()}
}
