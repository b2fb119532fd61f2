package command_test

import (
	"strconv"
	"strings"

	"millpond/api"
)

// table is a group's commands as the chapter writes them: name, arity, read or write, and the keys' first, last and step.
type table struct {
	group api.Group
	text  string
}

var tables = []table{
	{api.GString, `
get                 2  read   1 1 1
set                -3  write  1 1 1
getset              3  write  1 1 1
getdel              2  write  1 1 1
setnx               3  write  1 1 1
setex               4  write  1 1 1
psetex              4  write  1 1 1
mget               -2  read   1 -1 1
mset               -3  write  1 -1 2
msetnx             -3  write  1 -1 2
append              3  write  1 1 1
strlen              2  read   1 1 1
getrange            4  read   1 1 1
setrange            4  write  1 1 1
incr                2  write  1 1 1
decr                2  write  1 1 1
incrby              3  write  1 1 1
decrby              3  write  1 1 1
`},
	{api.GList, `
lpush              -3  write  1 1 1
rpush              -3  write  1 1 1
lpushx             -3  write  1 1 1
rpushx             -3  write  1 1 1
lpop               -2  write  1 1 1
rpop               -2  write  1 1 1
llen                2  read   1 1 1
lrange              4  read   1 1 1
lindex              3  read   1 1 1
lset                4  write  1 1 1
lrem                4  write  1 1 1
ltrim               4  write  1 1 1
linsert             5  write  1 1 1
rpoplpush           3  write  1 2 1
lmove               5  write  1 2 1
`},
	{api.GSet, `
sadd               -3  write  1 1 1
srem               -3  write  1 1 1
sismember           3  read   1 1 1
smismember         -3  read   1 1 1
scard               2  read   1 1 1
smembers            2  read   1 1 1
spop               -2  write  1 1 1
srandmember        -2  read   1 1 1
smove               4  write  1 2 1
sunion             -2  read   1 -1 1
sinter             -2  read   1 -1 1
sdiff              -2  read   1 -1 1
sunionstore        -3  write  1 -1 1
sinterstore        -3  write  1 -1 1
sdiffstore         -3  write  1 -1 1
`},
	{api.GZset, `
zadd               -4  write  1 1 1
zrem               -3  write  1 1 1
zscore              3  read   1 1 1
zcard               2  read   1 1 1
zcount              4  read   1 1 1
zrange             -4  read   1 1 1
zrevrange          -4  read   1 1 1
zrangebyscore      -4  read   1 1 1
zrank               3  read   1 1 1
zrevrank            3  read   1 1 1
zincrby             4  write  1 1 1
zpopmin            -2  write  1 1 1
zpopmax            -2  write  1 1 1
zremrangebyrank     4  write  1 1 1
zremrangebyscore    4  write  1 1 1
`},
	{api.GHash, `
hset               -4  write  1 1 1
hsetnx              4  write  1 1 1
hget                3  read   1 1 1
hmget              -3  read   1 1 1
hdel               -3  write  1 1 1
hexists             3  read   1 1 1
hlen                2  read   1 1 1
hkeys               2  read   1 1 1
hvals               2  read   1 1 1
hgetall             2  read   1 1 1
hincrby             4  write  1 1 1
hstrlen             3  read   1 1 1
`},
	{api.GKey, `
del                -2  write  1 -1 1
exists             -2  read   1 -1 1
type                2  read   1 1 1
expire              3  write  1 1 1
pexpire             3  write  1 1 1
expireat            3  write  1 1 1
pexpireat           3  write  1 1 1
ttl                 2  read   1 1 1
pttl                2  read   1 1 1
persist             2  write  1 1 1
rename              3  write  1 2 1
renamenx            3  write  1 2 1
keys                2  read   no keys
randomkey           1  read   no keys
dbsize              1  read   no keys
flushall            1  write  no keys
`},
	{api.GServer, `
ping               -1  read   no keys
echo                2  read   no keys
wait                3  read   no keys
replicaof           3  read   no keys
replconf           -1  read   no keys
psync               3  read   no keys
role                1  read   no keys
quit                1  read   no keys
`},
}

// listed are the commands of the tables, in their order.
func listed() []api.Spec {
	var l []api.Spec
	for _, t := range tables {
		for line := range strings.Lines(strings.TrimPrefix(t.text, "\n")) {
			l = append(l, readRow(t.group, strings.Fields(line)))
		}
	}
	return l
}

// readRow is a command of a table's row.
func readRow(g api.Group, words []string) api.Spec {
	s := api.Spec{Name: words[0], Group: g, Arity: readNumber(words[1]), Write: words[2] == "write"}
	if strings.Join(words[3:], " ") != "no keys" {
		s.First, s.Last, s.Step = readNumber(words[3]), readNumber(words[4]), readNumber(words[5])
	}
	return s
}

func readNumber(word string) int {
	n, wrong := strconv.Atoi(word)
	if wrong != nil {
		panic(wrong)
	}
	return n
}

// named are the commands of the tables by their names.
var named = byName()

func byName() map[string]api.Spec {
	all := map[string]api.Spec{}
	for _, s := range listed() {
		all[s.Name] = s
	}
	return all
}

const (
	great  = "ABCDEFGHIJKLMNOPQRSTUVWXYZ"
	little = "abcdefghijklmnopqrstuvwxyz"
)

// modelLower is a text with small letters: each byte is looked for in the row of great ones.
func modelLower(s string) string {
	var b strings.Builder
	for i := range len(s) {
		if at := strings.IndexByte(great, s[i]); at >= 0 {
			b.WriteByte(little[at])
		} else {
			b.WriteByte(s[i])
		}
	}
	return b.String()
}

// plainBytes are all bytes that stay as they are in an error.
const plainBytes = " !\"#$%&'()*+,-./0123456789:;<=>?@" + great + "[\\]^_`" + little + "{|}~"

// modelPlain is a text as it stands in an error.
func modelPlain(s string) string {
	var b strings.Builder
	for i := 0; i < len(s) && i < 128; i++ {
		if strings.IndexByte(plainBytes, s[i]) < 0 {
			b.WriteString(".")
		} else {
			b.WriteByte(s[i])
		}
	}
	return b.String()
}

// modelCheck is what Check answers.
func modelCheck(args []string) (api.Spec, string) {
	if len(args) == 0 {
		return api.Spec{}, "ERR unknown command ''"
	}
	s, known := named[modelLower(args[0])]
	if !known {
		return api.Spec{}, "ERR unknown command '" + modelPlain(args[0]) + "'"
	}
	least, most := s.Arity, s.Arity
	if s.Arity < 0 {
		least, most = -s.Arity, len(args)
	}
	if len(args) < least || len(args) > most {
		return api.Spec{}, "ERR wrong number of arguments for '" + s.Name + "' command"
	}
	return s, ""
}

// modelKeys are the keys of a command that may be: each place is asked whether it is a key's.
func modelKeys(s api.Spec, args []string) []string {
	var keys []string
	for i, text := range args {
		last := s.Last
		if last < 0 {
			last = len(args) + last
		}
		if s.First > 0 && i >= s.First && i <= last && (i-s.First)%s.Step == 0 {
			keys = append(keys, text)
		}
	}
	return keys
}
