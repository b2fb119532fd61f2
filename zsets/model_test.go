package zsets_test

import (
	"math/big"
	"regexp"
	"slices"
	"strings"

	"millpond/api"
	"millpond/image"
)

// The model: a store is an image, which image's Put and Del alone change; a call is done on it as the chapter's words say.
type model struct {
	l    []api.Entry
	c    api.Call
	told [][]string
}

// arities are how many arguments each command has, below 0: at least.
var arities = map[string]int{
	"zadd": -4, "zrem": -3, "zscore": 3, "zcard": 2, "zcount": 4, "zrange": -4, "zrevrange": -4, "zrangebyscore": -4,
	"zrank": 3, "zrevrank": 3, "zincrby": 4, "zpopmin": -2, "zpopmax": -2, "zremrangebyrank": 4, "zremrangebyscore": 4,
}

// errors are the chapter's errors by their names.
var errors = map[string]string{
	"WRONG":  "WRONGTYPE Operation against a key holding the wrong kind of value",
	"NUMBER": "ERR value is not an integer or out of range",
	"SYNTAX": "ERR syntax error",
	"COUNT":  "ERR value is out of range, must be positive",
	"BOUND":  "ERR min or max is not a float",
	"PAIR":   "ERR INCR option supports a single increment-element pair",
	"OVER":   "ERR increment or decrement would overflow",
	"LARGE":  "ERR collection is too large",
	"FULL":   "ERR store is full",
}

// fail ends a command with the error of a name.
func (m *model) fail(name string) { panic(api.Reply{Kind: api.RError, S: errors[name]}) }

// modelLower is a text with small letters, of A to Z alone.
func modelLower(s string) string {
	b := []byte(s)
	for i := range b {
		if at := strings.IndexByte("ABCDEFGHIJKLMNOPQRSTUVWXYZ", b[i]); at >= 0 {
			b[i] = "abcdefghijklmnopqrstuvwxyz"[at]
		}
	}
	return string(b)
}

// isMine: is a call one of the package's?
func isMine(c api.Call) bool {
	if len(c.Args) == 0 || len(c.Args) > 1024 || c.Now < 0 || c.Now > 1<<40 {
		return false
	}
	if slices.ContainsFunc(c.Args, func(a string) bool { return len(a) > 65536 }) {
		return false
	}
	arity, mine := arities[modelLower(c.Args[0])]
	return mine && (len(c.Args) == arity || arity < 0 && len(c.Args) >= -arity)
}

func (m *model) do(c api.Call) (r api.Reply, told [][]string) {
	if !isMine(c) {
		return api.Reply{}, nil
	}
	m.c, m.told = c, nil
	defer func() {
		if told = m.told; r.Kind == 0 {
			r = recover().(api.Reply)
		}
	}()
	return commands()[modelLower(c.Args[0])](m, c.Args), nil
}

// scored is a sorted set, in order, as it was looked at.
type scored struct {
	l     []api.Scored
	key   string
	at    int
	there bool
}

// look looks at a key that is to be a sorted set, if it is there.
func (m *model) look(key string) scored {
	e, stands := image.Find(m.l, key)
	isOver := stands && e.At >= 0 && e.At <= m.c.Now
	if isOver && m.c.Role == 1 {
		m.l, _ = image.Del(m.l, key)
		m.told = append(m.told, []string{"DEL", key})
	}
	if !stands || isOver && (m.c.Role == 1 || m.c.Role == 2) {
		return scored{nil, key, -1, false}
	}
	if e.V.Kind != api.KZset {
		m.fail("WRONG")
	}
	return scored{slices.Clone(e.V.Z), key, e.At, true}
}

// find is the place of a member, or -1.
func (z scored) find(member string) int {
	return slices.IndexFunc(z.l, func(s api.Scored) bool { return s.M == member })
}

// with is a sorted set in which a member has a score.
func (z scored) with(member string, n int64) scored {
	if i := z.find(member); i >= 0 {
		z.l = slices.Delete(slices.Clone(z.l), i, i+1)
	}
	at := 0
	for at < len(z.l) && (z.l[at].N < n || z.l[at].N == n && z.l[at].M < member) {
		at++
	}
	z.l = slices.Insert(slices.Clone(z.l), at, api.Scored{M: member, N: n})
	return z
}

// lay lays what became of a sorted set, and tells commands, if it is another one.
func (m *model) lay(was, z scored, told ...[]string) {
	if slices.Equal(was.l, z.l) {
		return
	}
	if len(z.l) > 65536 {
		m.fail("LARGE")
	}
	l, _ := image.Del(m.l, z.key)
	if len(z.l) > 0 {
		var wrong api.Errno
		l, wrong = image.Put(l, ends(z.key, api.Value{Kind: api.KZset, Z: z.l}, z.at))
		if wrong == api.ErrMany {
			m.fail("FULL")
		}
		if wrong != api.OK {
			panic(wrong)
		}
	}
	m.l = l
	m.told = append(m.told, told...)
}

var numberForm = regexp.MustCompile(`\A(0|-?[1-9][0-9]*)\z`)

// whole is the number of a text, which fails by an error's name.
func (m *model) whole(s, name string) *big.Int {
	n, _ := new(big.Int).SetString(s, 10)
	if !numberForm.MatchString(s) || !n.IsInt64() {
		m.fail(name)
	}
	return n
}

func (m *model) number(s string) *big.Int { return m.whole(s, "NUMBER") }

func (m *model) count(s string) *big.Int {
	n := m.whole(s, "COUNT")
	if n.Sign() < 0 {
		m.fail("COUNT")
	}
	return n
}

// border is where a range begins, or ends, by its bound's text, as a place between numbers: each score stands at its double; what is open begins one further, by.
func (m *model) border(text string, by int64) *big.Int {
	far := new(big.Int).Lsh(big.NewInt(1), 90)
	switch text {
	case "-inf":
		return far.Neg(far)
	case "+inf", "inf":
		return far
	}
	without := text
	if len(text) > 0 && text[0] == '(' {
		without = text[1:]
	} else {
		by = 0
	}
	n := m.whole(without, "BOUND")
	return n.Lsh(n, 1).Add(n, big.NewInt(by))
}

// inRange are those with a score between two borders.
func (z scored) inRange(low, high *big.Int) []api.Scored {
	var l []api.Scored
	for _, s := range z.l {
		at := new(big.Int).Lsh(big.NewInt(s.N), 1)
		if low.Cmp(at) <= 0 && at.Cmp(high) <= 0 {
			l = append(l, s)
		}
	}
	return l
}

// within are those whose places stand between two numbers.
func within(first, last *big.Int, all []api.Scored) []api.Scored {
	var l []api.Scored
	for i, s := range all {
		behind := first.Cmp(big.NewInt(int64(i))) <= 0 && first.Sign() >= 0 || first.Sign() < 0 && first.Cmp(big.NewInt(int64(i-len(all)))) <= 0
		ahead := last.Cmp(big.NewInt(int64(i))) >= 0 || last.Sign() < 0 && last.Cmp(big.NewInt(int64(i-len(all)))) >= 0
		if behind && ahead {
			l = append(l, s)
		}
	}
	return l
}

func integer(n int) api.Reply { return api.Reply{Kind: api.RInt, N: int64(n)} }

func bulk(s string) api.Reply { return api.Reply{Kind: api.RBulk, S: s} }

func noBulk() api.Reply { return api.Reply{Kind: api.RNil} }

// digits are a score's text.
func digits(n int64) string { return big.NewInt(n).String() }

func array(l []api.Scored, withScores bool) api.Reply {
	r := api.Reply{Kind: api.RArray}
	for _, s := range l {
		r.L = append(r.L, bulk(s.M))
		if withScores {
			r.L = append(r.L, bulk(digits(s.N)))
		}
	}
	return r
}

// commands are the commands by their names.
func commands() map[string]func(m *model, a []string) api.Reply {
	return map[string]func(m *model, a []string) api.Reply{
		"zadd": modelAdd,
		"zincrby": func(m *model, a []string) api.Reply {
			m.number(a[2])
			return modelAdd(m, []string{"zadd", a[1], "incr", a[2], a[3]})
		},
		"zrem": modelRem,
		"zscore": func(m *model, a []string) api.Reply {
			z := m.look(a[1])
			if i := z.find(a[2]); i >= 0 {
				return bulk(digits(z.l[i].N))
			}
			return noBulk()
		},
		"zcard": func(m *model, a []string) api.Reply { return integer(len(m.look(a[1]).l)) },
		"zrank": func(m *model, a []string) api.Reply {
			if i := m.look(a[1]).find(a[2]); i >= 0 {
				return integer(i)
			}
			return noBulk()
		},
		"zrevrank": func(m *model, a []string) api.Reply {
			z := m.look(a[1])
			slices.Reverse(z.l)
			if i := z.find(a[2]); i >= 0 {
				return integer(i)
			}
			return noBulk()
		},
		"zcount": func(m *model, a []string) api.Reply {
			low, high := m.border(a[2], 1), m.border(a[3], -1)
			return integer(len(m.look(a[1]).inRange(low, high)))
		},
		"zrange":        func(m *model, a []string) api.Reply { return modelRange(m, a, false) },
		"zrevrange":     func(m *model, a []string) api.Reply { return modelRange(m, a, true) },
		"zrangebyscore": modelByScore,
		"zpopmin":       func(m *model, a []string) api.Reply { return modelPop(m, a, false) },
		"zpopmax":       func(m *model, a []string) api.Reply { return modelPop(m, a, true) },
		"zremrangebyrank": func(m *model, a []string) api.Reply {
			first, last := m.number(a[2]), m.number(a[3])
			z := m.look(a[1])
			return m.takeOut(z, within(first, last, z.l))
		},
		"zremrangebyscore": func(m *model, a []string) api.Reply {
			low, high := m.border(a[2], 1), m.border(a[3], -1)
			z := m.look(a[1])
			return m.takeOut(z, z.inRange(low, high))
		},
	}
}

// modelAdd goes through the pairs, each of which is done on a sorted set of its own.
func modelAdd(m *model, a []string) api.Reply {
	has := map[string]bool{}
	at := 2
	for ; at < len(a) && slices.Contains([]string{"nx", "xx", "gt", "lt", "ch", "incr"}, modelLower(a[at])); at++ {
		has[modelLower(a[at])] = true
	}
	pairs := a[at:]
	if len(pairs) == 0 || len(pairs)%2 == 1 || has["nx"] && (has["xx"] || has["gt"] || has["lt"]) || has["gt"] && has["lt"] {
		m.fail("SYNTAX")
	}
	if has["incr"] && len(pairs) != 2 {
		m.fail("PAIR")
	}
	for i := 0; i < len(pairs); i += 2 {
		m.number(pairs[i])
	}
	was := m.look(a[1])
	z, fresh, other, made := was, 0, 0, noBulk()
	told := []string{"ZADD", a[1]}
	for i := 0; i < len(pairs); i += 2 {
		n, at, had := m.number(pairs[i]), z.find(pairs[i+1]), new(big.Int)
		there := at >= 0
		if there && has["nx"] || !there && has["xx"] {
			continue
		}
		if there {
			had.SetInt64(z.l[at].N)
		}
		if has["incr"] {
			n.Add(n, had)
			if !n.IsInt64() {
				m.fail("OVER")
			}
		}
		if there && (has["gt"] && n.Cmp(had) <= 0 || has["lt"] && n.Cmp(had) >= 0) {
			continue
		}
		made = bulk(n.String())
		if there && n.Cmp(had) == 0 {
			continue
		}
		if there {
			other++
		} else {
			fresh++
		}
		z = z.with(pairs[i+1], n.Int64())
		told = append(told, n.String(), pairs[i+1])
	}
	m.lay(was, z, told)
	switch {
	case has["incr"]:
		return made
	case has["ch"]:
		return integer(fresh + other)
	}
	return integer(fresh)
}

func modelRem(m *model, a []string) api.Reply {
	was := m.look(a[1])
	z := was
	for _, member := range a[2:] {
		if i := z.find(member); i >= 0 {
			z.l = slices.Delete(slices.Clone(z.l), i, i+1)
		}
	}
	m.lay(was, z, append([]string{strings.ToUpper(a[0])}, a[1:]...))
	return integer(len(was.l) - len(z.l))
}

// takeOut takes members out: how many, told a thousand a command.
func (m *model) takeOut(was scored, gone []api.Scored) api.Reply {
	isGone := map[string]bool{}
	var told [][]string
	for i, s := range gone {
		isGone[s.M] = true
		if i%1000 == 0 {
			told = append(told, []string{"ZREM", was.key})
		}
		told[len(told)-1] = append(told[len(told)-1], s.M)
	}
	z := was
	z.l = nil
	for _, s := range was.l {
		if !isGone[s.M] {
			z.l = append(z.l, s)
		}
	}
	m.lay(was, z, told...)
	return integer(len(gone))
}

func modelPop(m *model, a []string, fromTheEnd bool) api.Reply {
	if len(a) > 3 {
		m.fail("SYNTAX")
	}
	most := big.NewInt(1)
	if len(a) == 3 {
		most = m.count(a[2])
	}
	z := m.look(a[1])
	var gone []api.Scored
	for i := range z.l {
		if fromTheEnd {
			i = len(z.l) - 1 - i
		}
		if most.Cmp(big.NewInt(int64(len(gone)))) > 0 {
			gone = append(gone, z.l[i])
		}
	}
	m.takeOut(z, gone)
	return array(gone, true)
}

func modelRange(m *model, a []string, turned bool) api.Reply {
	first, last := m.number(a[2]), m.number(a[3])
	if len(a) > 5 || len(a) == 5 && modelLower(a[4]) != "withscores" {
		m.fail("SYNTAX")
	}
	z := m.look(a[1])
	if turned {
		slices.Reverse(z.l)
	}
	return array(within(first, last, z.l), len(a) == 5)
}

func modelByScore(m *model, a []string) api.Reply {
	low, high := m.border(a[2], 1), m.border(a[3], -1)
	withScores, without, most := false, "0", "-1"
	for i := 4; i < len(a); i++ {
		switch word := modelLower(a[i]); {
		case word == "withscores":
			withScores = true
		case word == "limit" && i+2 < len(a):
			without, most = a[i+1], a[i+2]
			i += 2
		default:
			m.fail("SYNTAX")
		}
	}
	n, k := m.number(without), m.number(most)
	var l []api.Scored
	for i, s := range m.look(a[1]).inRange(low, high) {
		if n.Sign() >= 0 && n.Cmp(big.NewInt(int64(i))) <= 0 && (k.Sign() < 0 || k.Cmp(big.NewInt(int64(len(l)))) > 0) {
			l = append(l, s)
		}
	}
	return array(l, withScores)
}
