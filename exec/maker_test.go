package exec_test

import (
	"math/rand/v2"
	"slices"
	"strings"
	"testing"

	"millpond/api"
)

// forms are forms of calls, one a line. A word of one great letter stands for any text of a sort: K a key, V a value, M a member, N a number, T a time, B a bound, S a side, W before or after, P a pattern; with `+` behind it for one or more of these.
const forms = `
get K
set K V
set K V get
set K V nx
set K V xx get
set K V keepttl
set K V ex N
set K V px T
set K V pxat T
set K V exat N xx
set K N
getset K V
getdel K
setnx K V
setex K N V
psetex K T V
mget K+
mset K V
mset K V K V K V
mset K V K
msetnx K V
msetnx K V K V
append K V
strlen K
getrange K N N
setrange K N V
incr K
decr K
incrby K N
decrby K N
lpush K V+
rpush K V+
lpushx K V+
rpushx K V+
lpop K
lpop K N
rpop K
rpop K N N
llen K
lrange K N N
lindex K N
lset K N V
lrem K N V
ltrim K N N
linsert K W V V
rpoplpush K K
lmove K K S S
sadd K M+
srem K M+
sismember K M
smismember K M+
scard K
smembers K
spop K
spop K N
spop K N N
srandmember K
srandmember K N
smove K K M
sunion K+
sinter K+
sdiff K+
sunionstore K K+
sinterstore K K+
sdiffstore K K+
zadd K N M
zadd K N M N M N M
zadd K gt ch N M N M
zadd K nx N M
zadd K xx incr N M
zadd K nx gt N M
zrem K M+
zscore K M
zcard K
zcount K B B
zrange K N N
zrevrange K N N withscores
zrangebyscore K B B
zrangebyscore K B B limit N N
zrank K M
zrevrank K M
zincrby K N M
zpopmin K
zpopmax K N
zremrangebyrank K N N
zremrangebyscore K B B
hset K M V
hset K M V M V M V
hset K M V M
hsetnx K M V
hget K M
hmget K M+
hdel K M+
hexists K M
hlen K
hkeys K
hvals K
hgetall K
hincrby K M N
hstrlen K M
del K+
exists K+
type K
expire K N
pexpire K T
expireat K N
pexpireat K T
ttl K
pttl K
persist K
persist K
rename K K
renamenx K K
keys P
randomkey
dbsize
flushall
`

// maker makes calls and entries of all sorts, the same ones at each run.
type maker struct {
	*rand.Rand
	keys    []string
	numbers []string
}

func newMaker(seed uint64) maker {
	return maker{rand.New(rand.NewPCG(seed, 18)), []string{"a", "b", "c", "", "\xff"}, []string{"0", "1", "2", "-1", "-2", "3", "1", "0", "2", "x", "-9223372036854775808", "9223372036854775807"}}
}

func (m maker) of(l ...string) string { return l[m.IntN(len(l))] }

// text is a text of a sort.
func (m maker) text(sort byte) string {
	switch sort {
	case 'K':
		return m.of(m.keys...)
	case 'V':
		return m.of("", "v", "5", "-1", "long", "9223372036854775807", "\x00\r\n\xff")
	case 'M':
		return m.of("", "a", "b", "v", "long")
	case 'N':
		return m.of(m.numbers...)
	case 'T':
		return m.of("0", "1", "5", "12", "20", "24", "-1", "x", "1099511627776", "1099511627777")
	case 'B':
		return m.of("-inf", "+inf", "0", "1", "(1", "(-2", "-1", "2", "(x")
	case 'S':
		return m.of("left", "Right", "LEFT", "right", "left", "right", "up")
	case 'W':
		return m.of("before", "AFTER", "after", "behind")
	}
	return m.of("*", "?", "[ab]", "[^a]", "", "\xff")
}

// args are arguments of a form.
func (m maker) args(form string) []string {
	var l []string
	for _, word := range strings.Fields(form) {
		if word[0] < 'A' || word[0] > 'Z' {
			l = append(l, word)
			continue
		}
		l = append(l, m.text(word[0]))
		for strings.HasSuffix(word, "+") && m.IntN(2) == 0 {
			l = append(l, m.text(word[0]))
		}
	}
	return l
}

// all are all forms.
func all() []string { return strings.Split(strings.TrimSpace(forms), "\n") }

// any are arguments of any form, the name in any letters.
func (m maker) any() []string {
	args := m.args(m.of(all()...))
	for args[0] == "flushall" && m.IntN(4) > 0 { // seldom, as nothing is left of what there was
		args = m.args(m.of(all()...))
	}
	if m.IntN(4) == 0 {
		args = inCases(args)[m.IntN(3)]
	}
	return args
}

// by is a call of any form; times rise, fall and go back again.
func (m maker) by(role api.Role) api.Call {
	return api.Call{Role: role, Now: m.IntN(25), Draw: m.Uint64(), Args: m.any()}
}

func (m maker) role() api.Role { return roles[m.IntN(len(roles))] }

// some are one or more members, none twice, rising.
func (m maker) some() []string {
	l := []string{m.text('M')}
	for range m.IntN(4) {
		l = append(l, m.text('M'))
	}
	slices.Sort(l)
	return slices.Compact(l)
}

// value is one of any kind.
func (m maker) value() api.Value {
	v := api.Value{Kind: api.Kind(1 + m.IntN(5))}
	l := m.some()
	switch v.Kind {
	case api.KString:
		v.S = m.text('V')
	case api.KList, api.KSet:
		v.L = l
	case api.KZset:
		for _, name := range l {
			v.Z = append(v.Z, api.Scored{M: name, N: m.Int64N(5) - 2})
		}
	default:
		for _, name := range l {
			v.H = append(v.H, api.Field{F: name, V: m.text('V')})
		}
	}
	return v
}

// entries are some of the keys, with values of any kind, and any ends.
func (m maker) entries() []api.Entry {
	var l []api.Entry
	for _, key := range m.keys {
		e := stay(key, m.value())
		if m.IntN(2) == 0 {
			e.At = m.IntN(25)
		}
		if m.IntN(4) > 0 {
			l = append(l, e)
		}
	}
	return l
}

// The forms are of all commands of chapters 12 to 17, and of none else.
func TestFormsAreOfAllCommands(t *testing.T) {
	there := map[string]bool{}
	for _, form := range all() {
		name, _, _ := strings.Cut(form, " ")
		there[name] = true
		if _, is := commands()[name]; !is {
			t.Errorf("%s is no command", name)
		}
	}
	if len(there) != 91 || len(commands()) != 91 {
		t.Errorf("%d commands have forms, there are %d", len(there), len(commands()))
	}
}
