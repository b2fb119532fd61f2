package hashes_test

import (
	"slices"
	"testing"

	"millpond/api"
	"millpond/hashes"
)

const (
	least    = "-9223372036854775808"
	greatest = "9223372036854775807"
)

func TestCount(t *testing.T) {
	check(t, api.RolePrimary, 10,
		row{"", "HINCRBY k a 5", ":5", "HSET k a 5", "k=a:5"}, row{"", "hincrby k a -5", ":-5", "HSET k a -5", "k=a:-5"}, row{"", "HINCRBY k '' 1", ":1", "HSET k '' 1", "k=:1"}, row{"k=a:1,b:x@11", "HINCRBY k a 2", ":3", "HSET k a 3", "k=a:3,b:x@11"}, row{"k=a:1@11", "HIncrBy k a -2", ":-1", "HSET k a -1", "k=a:-1@11"}, row{"k=b:1@11", "HINCRBY k a 2", ":2", "HSET k a 2", "k=a:2,b:1@11"}, row{"k=a:-5", "HINCRBY k a 5", ":0", "HSET k a 0", "k=a:0"}, row{"k=:7", "HINCRBY k '' -7", ":0", "HSET k '' 0", "k=:0"},
		// By 0: of a field that is there nothing changes.
		row{"k=a:5@11", "HINCRBY k a 0", ":5", "", "="}, row{"k=a:0", "HINCRBY k a 0", ":0", "", "="}, row{"k=a:-5", "HINCRBY k a 0", ":-5", "", "="}, row{"k=b:5@11", "HINCRBY k a 0", ":0", "HSET k a 0", "k=a:0,b:5@11"}, row{"", "HINCRBY k a 0", ":0", "HSET k a 0", "k=a:0"},
		// Both ends of 64 bits, and one beyond.
		row{"k=a:9223372036854775806", "HINCRBY k a 1", ":" + greatest, "HSET k a " + greatest, "k=a:" + greatest}, row{"k=a:" + greatest, "HINCRBY k a 1", "-OVER", "", "="}, row{"k=a:1", "HINCRBY k a 9223372036854775806", ":" + greatest, "HSET k a " + greatest, "k=a:" + greatest}, row{"k=a:1", "HINCRBY k a " + greatest, "-OVER", "", "="}, row{"", "HINCRBY k a " + greatest, ":" + greatest, "HSET k a " + greatest, "k=a:" + greatest}, row{"k=a:" + greatest, "HINCRBY k a 0", ":" + greatest, "", "="}, row{"k=a:" + greatest, "HINCRBY k a -1", ":9223372036854775806", "HSET k a 9223372036854775806", "k=a:9223372036854775806"},
		row{"k=a:-9223372036854775807", "HINCRBY k a -1", ":" + least, "HSET k a " + least, "k=a:" + least}, row{"k=a:" + least, "HINCRBY k a -1", "-OVER", "", "="}, row{"k=a:-1", "HINCRBY k a -9223372036854775807", ":" + least, "HSET k a " + least, "k=a:" + least}, row{"k=a:-1@11", "HINCRBY k a " + least, "-OVER", "", "="}, row{"", "HINCRBY k a " + least, ":" + least, "HSET k a " + least, "k=a:" + least}, row{"k=a:" + least, "HINCRBY k a 0", ":" + least, "", "="},
		row{"k=a:" + greatest, "HINCRBY k a " + least, ":-1", "HSET k a -1", "k=a:-1"}, row{"k=a:" + least, "HINCRBY k a " + greatest, ":-1", "HSET k a -1", "k=a:-1"}, row{"k=a:" + greatest, "HINCRBY k a " + greatest, "-OVER", "", "="}, row{"k=a:" + least, "HINCRBY k a " + least, "-OVER", "", "="},
		// Other kinds.
		row{"k:str", "HINCRBY k a 1", "-WRONG", "", "="}, row{"k:list", "HINCRBY k a 1", "-WRONG", "", "="}, row{"k:set", "HINCRBY k a 0", "-WRONG", "", "="}, row{"k:zset@11", "HINCRBY k a 1", "-WRONG", "", "="}, row{"k=a:1", "HINCRBY k a", "none", "", "="}, row{"k=a:1", "HINCRBY k a 1 b 1", "none", "", "="},
	)
}

// noNumbers are texts that are no number's.
var noNumbers = []string{"", "x", "+1", "01", "-0", "-01", "00", " 1", "1 ", "1x", "1.0", "1e3", "-", "+", "--1", "0x1", "1_0", "\x00", "1\x00", "\u0661", "inf", "nan", "9223372036854775808", "-9223372036854775809", "10000000000000000000", "99999999999999999999", over[:65536]}

// What is no number: the n, the v that stands there, and two errors at once, of which the one that is named first is told.
func TestWhatIsNoNumber(t *testing.T) {
	with := func(v string) []api.Entry {
		return []api.Entry{ends("k", api.Value{Kind: api.KHash, H: []api.Field{{F: "a", V: v}, {F: "b", V: "7"}}}, 11)}
	}
	count := func(name, n string) api.Call {
		return api.Call{Role: api.RolePrimary, Now: 10, Args: []string{"HINCRBY", "k", name, n}}
	}
	for _, text := range noNumbers {
		for _, before := range [][]api.Entry{nil, with("5"), with(greatest), with("x"), entries("k:str"), entries("k:list"), entries("k=a:x@10")} {
			checkCall(t, count("a", text), before, reply("-NUMBER"), nil, "=")
		}
		for _, n := range []string{"0", "1", "-1", least, greatest} { // also where the sum would be beyond 64 bits
			checkCall(t, count("a", n), with(text), reply("-HASH"), nil, "=")
		}
		s := load(t, with(text)) // another field may be counted
		if r, told := hashes.Do(s, count("b", "-2")); show(r) != ":5" || !sameTold(told, [][]string{{"HSET", "k", "b", "5"}}) {
			t.Errorf("HINCRBY beside %.20q = %s, told %s", text, show(r), wroteTold(told))
		}
		if r, _ := hashes.Do(s, api.Call{Role: api.RolePrimary, Args: []string{"HGET", "k", "a"}}); r.S != text {
			t.Errorf("beside a count %.20q is %.20q", text, r.S)
		}
	}
	check(t, api.RolePrimary, 10, row{"k=a:x,b:1", "HINCRBY k a 1", "-HASH", "", "="}, row{"k=a:,b:1", "HINCRBY k a 0", "-HASH", "", "="}, row{"k=a:x,b:1", "HINCRBY k a x", "-NUMBER", "", "="}, row{"k=a:x,b:1", "HINCRBY k c 1", ":1", "HSET k c 1", "k=a:x,b:1,c:1"}, row{"k=a:x@10", "HINCRBY k a 1", ":1", "DEL k | HSET k a 1", "k=a:1"})
}

// Two numbers added to one that stands there, one behind the other, are their sum; and one that is taken off again leads back.
func TestSums(t *testing.T) {
	t.Parallel()
	numbers := []string{least, "-9223372036854775807", "-4611686018427387904", "-1", "0", "1", "4611686018427387903", "4611686018427387904", "9223372036854775806", greatest}
	for _, was := range numbers {
		for _, n := range numbers {
			for _, before := range []string{"", "k=a:" + was, "k=a:" + was + ",b:7@11", "k=b:" + was} {
				newTrio(t, entries(before)).do(t, api.Call{Role: api.RolePrimary, Args: words("hincrby k a " + n)})
			}
			x := newTrio(t, entries("k=a:"+was))
			for _, args := range []string{"hincrby k a " + n, "hincrby k b " + n, "hincrby k a 5", "hincrby k a -5", "hget k a", "hset k a " + n, "hincrby k a " + was} {
				x.do(t, api.Call{Role: api.RolePrimary, Args: words(args)})
			}
		}
	}
}

// Counting goes on from what was set, and what was counted is told as any other value.
func TestCountAndSetInTurn(t *testing.T) {
	x := newTrio(t, entries("k=b:x@11"))
	for _, args := range []string{"hincrby k a 3", "hget k a", "hstrlen k a", "hset k a 40 b 2", "hincrby k b 0", "hincrby k a -43", "hgetall k", "hset k a 04", "hincrby k a 1", "hdel k a", "hincrby k a 1", "hsetnx k a 9", "hvals k", "hdel k a b", "hincrby k a 0", "hlen k"} {
		x.do(t, api.Call{Role: api.RolePrimary, Now: 10, Args: words(args)})
	}
	if r, _ := hashes.Do(x.s, api.Call{Role: api.RolePrimary, Now: 10, Args: words("hgetall k")}); show(r) != "[$a $0]" || !slices.EqualFunc(x.s.Image(), entries("k=a:0"), func(a, b api.Entry) bool { return a.At == b.At }) {
		t.Errorf("in the end there is %s: %s", show(r), wrote(x.s.Image()))
	}
}
