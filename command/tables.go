package command

import (
	"iter"

	"millpond/api"
)

// What the tables say of a command: it changes no store, or it may.
const (
	read  = false
	write = true
)

// row is a command as its group's table has it: name, arity, read or write, and its keys' first, last and step.
type row struct {
	name  string
	arity int
	write bool
	first int
	last  int
	step  int
}

// from tells the commands of a group, and behind them those of all groups behind it.
func from(g api.Group) iter.Seq[api.Spec] {
	return func(yield func(api.Spec) bool) {
		switch g {
		case api.GString:
			if !ofStrings(yield) {
				return
			}
			fallthrough
		case api.GList:
			if !ofLists(yield) {
				return
			}
			fallthrough
		case api.GSet:
			if !ofSets(yield) {
				return
			}
			fallthrough
		case api.GZset:
			if !ofZsets(yield) {
				return
			}
			fallthrough
		case api.GHash:
			if !ofHashes(yield) {
				return
			}
			fallthrough
		case api.GKey:
			if !ofKeys(yield) {
				return
			}
			fallthrough
		case api.GServer:
			ofServer(yield)
		}
	}
}

// tell tells a group's commands, as long as more are asked for; false: none is any more.
func tell(yield func(api.Spec) bool, g api.Group, rows []row) bool {
	for _, r := range rows {
		if !yield(api.Spec{Name: r.name, Group: g, Arity: r.arity, Write: r.write, First: r.first, Last: r.last, Step: r.step}) {
			return false
		}
	}
	return true
}

// ofStrings tells the commands of strings.
func ofStrings(yield func(api.Spec) bool) bool {
	return tell(yield, api.GString, []row{
		{"get", 2, read, 1, 1, 1},
		{"set", -3, write, 1, 1, 1},
		{"getset", 3, write, 1, 1, 1},
		{"getdel", 2, write, 1, 1, 1},
		{"setnx", 3, write, 1, 1, 1},
		{"setex", 4, write, 1, 1, 1},
		{"psetex", 4, write, 1, 1, 1},
		{"mget", -2, read, 1, -1, 1},
		{"mset", -3, write, 1, -1, 2},
		{"msetnx", -3, write, 1, -1, 2},
		{"append", 3, write, 1, 1, 1},
		{"strlen", 2, read, 1, 1, 1},
		{"getrange", 4, read, 1, 1, 1},
		{"setrange", 4, write, 1, 1, 1},
		{"incr", 2, write, 1, 1, 1},
		{"decr", 2, write, 1, 1, 1},
		{"incrby", 3, write, 1, 1, 1},
		{"decrby", 3, write, 1, 1, 1},
	})
}

// ofLists tells the commands of lists.
func ofLists(yield func(api.Spec) bool) bool {
	return tell(yield, api.GList, []row{
		{"lpush", -3, write, 1, 1, 1},
		{"rpush", -3, write, 1, 1, 1},
		{"lpushx", -3, write, 1, 1, 1},
		{"rpushx", -3, write, 1, 1, 1},
		{"lpop", -2, write, 1, 1, 1},
		{"rpop", -2, write, 1, 1, 1},
		{"llen", 2, read, 1, 1, 1},
		{"lrange", 4, read, 1, 1, 1},
		{"lindex", 3, read, 1, 1, 1},
		{"lset", 4, write, 1, 1, 1},
		{"lrem", 4, write, 1, 1, 1},
		{"ltrim", 4, write, 1, 1, 1},
		{"linsert", 5, write, 1, 1, 1},
		{"rpoplpush", 3, write, 1, 2, 1},
		{"lmove", 5, write, 1, 2, 1},
	})
}

// ofSets tells the commands of sets.
func ofSets(yield func(api.Spec) bool) bool {
	return tell(yield, api.GSet, []row{
		{"sadd", -3, write, 1, 1, 1},
		{"srem", -3, write, 1, 1, 1},
		{"sismember", 3, read, 1, 1, 1},
		{"smismember", -3, read, 1, 1, 1},
		{"scard", 2, read, 1, 1, 1},
		{"smembers", 2, read, 1, 1, 1},
		{"spop", -2, write, 1, 1, 1},
		{"srandmember", -2, read, 1, 1, 1},
		{"smove", 4, write, 1, 2, 1},
		{"sunion", -2, read, 1, -1, 1},
		{"sinter", -2, read, 1, -1, 1},
		{"sdiff", -2, read, 1, -1, 1},
		{"sunionstore", -3, write, 1, -1, 1},
		{"sinterstore", -3, write, 1, -1, 1},
		{"sdiffstore", -3, write, 1, -1, 1},
	})
}

// ofZsets tells the commands of sorted sets.
func ofZsets(yield func(api.Spec) bool) bool {
	return tell(yield, api.GZset, []row{
		{"zadd", -4, write, 1, 1, 1},
		{"zrem", -3, write, 1, 1, 1},
		{"zscore", 3, read, 1, 1, 1},
		{"zcard", 2, read, 1, 1, 1},
		{"zcount", 4, read, 1, 1, 1},
		{"zrange", -4, read, 1, 1, 1},
		{"zrevrange", -4, read, 1, 1, 1},
		{"zrangebyscore", -4, read, 1, 1, 1},
		{"zrank", 3, read, 1, 1, 1},
		{"zrevrank", 3, read, 1, 1, 1},
		{"zincrby", 4, write, 1, 1, 1},
		{"zpopmin", -2, write, 1, 1, 1},
		{"zpopmax", -2, write, 1, 1, 1},
		{"zremrangebyrank", 4, write, 1, 1, 1},
		{"zremrangebyscore", 4, write, 1, 1, 1},
	})
}

// ofHashes tells the commands of hashes.
func ofHashes(yield func(api.Spec) bool) bool {
	return tell(yield, api.GHash, []row{
		{"hset", -4, write, 1, 1, 1},
		{"hsetnx", 4, write, 1, 1, 1},
		{"hget", 3, read, 1, 1, 1},
		{"hmget", -3, read, 1, 1, 1},
		{"hdel", -3, write, 1, 1, 1},
		{"hexists", 3, read, 1, 1, 1},
		{"hlen", 2, read, 1, 1, 1},
		{"hkeys", 2, read, 1, 1, 1},
		{"hvals", 2, read, 1, 1, 1},
		{"hgetall", 2, read, 1, 1, 1},
		{"hincrby", 4, write, 1, 1, 1},
		{"hstrlen", 3, read, 1, 1, 1},
	})
}

// ofKeys tells the commands of keys.
func ofKeys(yield func(api.Spec) bool) bool {
	return tell(yield, api.GKey, []row{
		{"del", -2, write, 1, -1, 1},
		{"exists", -2, read, 1, -1, 1},
		{"type", 2, read, 1, 1, 1},
		{"expire", 3, write, 1, 1, 1},
		{"pexpire", 3, write, 1, 1, 1},
		{"expireat", 3, write, 1, 1, 1},
		{"pexpireat", 3, write, 1, 1, 1},
		{"ttl", 2, read, 1, 1, 1},
		{"pttl", 2, read, 1, 1, 1},
		{"persist", 2, write, 1, 1, 1},
		{"rename", 3, write, 1, 2, 1},
		{"renamenx", 3, write, 1, 2, 1},
		{"keys", 2, read, 0, 0, 0},
		{"randomkey", 1, read, 0, 0, 0},
		{"dbsize", 1, read, 0, 0, 0},
		{"flushall", 1, write, 0, 0, 0},
	})
}

// ofServer tells the commands of the server.
func ofServer(yield func(api.Spec) bool) bool {
	return tell(yield, api.GServer, []row{
		{"ping", -1, read, 0, 0, 0},
		{"echo", 2, read, 0, 0, 0},
		{"wait", 3, read, 0, 0, 0},
		{"replicaof", 3, read, 0, 0, 0},
		{"replconf", -1, read, 0, 0, 0},
		{"psync", 3, read, 0, 0, 0},
		{"role", 1, read, 0, 0, 0},
		{"quit", 1, read, 0, 0, 0},
	})
}
