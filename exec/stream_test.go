package exec_test

import (
	"slices"
	"strconv"
	"strings"
	"testing"

	"millpond/api"
	"millpond/exec"
	"millpond/image"
	"millpond/reply"
	"millpond/resp"
	"millpond/space"
)

// applies: does a stream, done on a space of entries, answer so, and leave these?
func applies(t *testing.T, before []api.Entry, stream [][]string, n int, e api.Errno, after []api.Entry) {
	t.Helper()
	s := load(t, before)
	if got, wrong := exec.Apply(s, stream...); got != n || wrong != e {
		t.Errorf("Apply of %s on%s = %d, %v; want %d, %v", wroteTold(stream), wrote(before), got, wrong, n, e)
	}
	if got, want := s.Image(), load(t, after).Image(); !image.Same(got, want) {
		t.Errorf("Apply of %s on%s leaves%s; want%s", wroteTold(stream), wrote(before), wrote(got), wrote(want))
	}
}

// P18.2: streams that are done, of no commands, of one, of many.
func TestApply(t *testing.T) {
	for _, x := range []struct {
		before, stream string
		n              int
		after          string
	}{
		{"", "", 0, ""},
		{"k=v", "", 0, "k=v"},
		{"", "SET k v", 1, "k=v"},
		{"", "SET k v | DEL k", 2, ""},
		{"", "set k v | SeT l w | Rename k m", 3, "l=w m=v"},
		{"k=v", "DEL x | DEL k | DEL k", 3, ""}, // a 0 is no error
		{"k=v", "GETDEL x | GETDEL k | LPOP x | RPOP x 5 | SPOP x 2 | LPOP x", 6, ""},
		{"k=v", "SET k w NX | SET l w XX | SETNX k w | SETNX l x", 4, "k=v l=x"},
		{"k=v", "SET k w GET | GETSET k x | APPEND k y", 3, "k=xy"},
		{"n=5", "INCR n | INCRBY n 7 | DECR n | DECRBY n -2", 4, "n=14"},
		{"", "LPUSH l b a | RPUSHX l c | LPUSHX x c | LTRIM l 0 0 | RPOP l", 5, ""},
		{"s:set z:zset h:hash", "SREM s a b | ZREM z a b | HDEL h a | FLUSHALL | FLUSHALL", 5, ""},
		{"", "SADD s b a c d | SPOP s | SPOP s | SPOP s | SREM s d", 5, ""},                                                    // the draw is 0: the first member each time
		{"", "SADD s b a c | SPOP s | SREM s b c", 3, ""},                                                                      // a went
		{"", "SET k v EX 2 | SET l v PX 3 | SET m v PXAT 0 | SET n v EXAT 5", 4, "k=v@2000 l=v@3 m=v@0 n=v@5000"},              // now is 0
		{"k=v l=w m=x n=y", "EXPIRE k 2 | PEXPIRE l 3 | PEXPIREAT m 0 | EXPIREAT n -5", 4, "k=v@2000 l=w@3 m=x@0 n=y@0"},       // an end that is not ahead takes nothing out
		{"", "SETEX k 2 v | PSETEX l 3 w", 2, "k=v@2000 l=w@3"},                                                                // now is 0, also here
		{"k=v@0 l=w@1", "APPEND k x | APPEND l y | RENAME k m | PERSIST l", 4, "m=vx@0 l=wy"},                                  // what is over is seen
		{"k=v@0 l:list@0 n=5@0", "SETNX k w | RPUSHX l c | INCR n | LTRIM l 3 3 | RPUSHX l d", 5, "k=v@0 n=6@0"},               // the list goes when it is empty
		{"k=v@0 l=w@5", "DEL k | SET l x KEEPTTL | MSETNX k y l z | MSET a b c d", 4, "l=x@5 a=b c=d"},                         // MSETNX does nothing
		{"a:set@0 b:set@7", "SINTERSTORE c a b | SMOVE a b a | SUNIONSTORE a b c | SDIFFSTORE c b a | SREM b a b", 5, "a:set"}, // ends go with what is stored
		{"z:zset@0", "ZADD z 5 c | ZINCRBY z -4 c | ZPOPMAX z | ZREMRANGEBYRANK z 0 0 | ZREMRANGEBYSCORE z -inf +inf", 5, ""},  // seen, though it ends at 0
		{"h:hash@0", "HSET h a b c d | HSETNX h a x | HINCRBY h n 5 | HDEL h c n", 4, "h:hash@0"},                              // its end stays
	} {
		applies(t, entries(x.before), told(x.stream), x.n, api.OK, entries(x.after))
	}
	applies(t, entries("l:list@0"), told("LMOVE l m LEFT RIGHT | rpoplpush l m | LSET m 0 x | LREM m 0 x | LINSERT m BEFORE x a | LINSERT m BEFORE b a | LPUSH m c"), 7, api.OK, []api.Entry{stay("m", api.Value{Kind: api.KList, L: []string{"c", "a", "b"}})})
}

// wrong are commands, a line each, that may not stand in a stream: they do not write, there are none such, or their reply is an error where the entries stand of which TestApplyFaults tells.
const wrong = `
get k
get x
mget k l
ping
ping x y
echo x
wait 1 0
replicaof no one
replconf ack 5
replconf
psync ? -1
role
quit
nothing
nothing k v
set
set k
del
getdel k l
flushall x
get
lpush k
append l x
lpush k x
sadd l x
zadd s 1 m
hset k f v
incr k
incr l
incrby n x
incrby n 9223372036854775807
set k v ex 0
set k v xx nx
set k v pxat -1
setrange k -1 x
setrange k 65536 x
mset k v l
lset none 0 x
lset l 9 x
lpop l x
lpop l 1 1
linsert l under a b
lmove l l up down
rpoplpush l k
spop s x
smove s k m
sunionstore s k
zadd z x m
zadd z 1
zadd z incr 1 a 2 b
zpopmin z -1
zremrangebyscore z a b
hset h f
hincrby h a 1
hincrby k f 1
rename none k
expire k x
expire k 1099511627777
pexpireat none x
`

// applyWithFault does a stream with a fault at each place of it.
func applyWithFault(t *testing.T, before []api.Entry, stream [][]string, fault []string) {
	t.Helper()
	for at := range len(stream) + 1 {
		s := load(t, before)
		for _, args := range stream[:at] {
			if r, _ := exec.Do(s, api.Call{Role: api.RoleStream, Args: args}); r.Kind == api.RError {
				t.Fatalf("%q = %s", args, show(r))
			}
		}
		applies(t, before, slices.Concat(stream[:at], [][]string{fault}, stream[at:]), at, api.ErrStream, s.Image())
		applies(t, before, slices.Concat(stream[:at], [][]string{fault, fault}), at, api.ErrStream, s.Image())
	}
}

// P18.2: what may not stand in a stream, at each place of one: how many were done ahead, what these made stays, those behind are not done.
func TestApplyFaults(t *testing.T) {
	t.Parallel()
	before, stream := entries("k=w l:list@5 n=7 s:set@0 z:zset h:hash@10"), told("SET k v | RPUSH l c | INCR n | sadd s m | DEL x")
	faults := [][]string{{""}, {over}, {"GET", over}, {"SET", "k", over}, {"SET", over, "v"}, {"PING", over}, filledUp(1025, "x", "DEL"), filledUp(1025, "x", "MGET"), {"SET\x00", "k", "v"}, {"\u017fet", "k", "v"}, nil, {}}
	for line := range strings.Lines(strings.TrimSpace(wrong)) {
		faults = append(faults, inCases(words(line))...)
	}
	for _, name := range names(reading) {
		arity := commands()[name].arity
		faults = append(faults, inCases(filledUp(max(arity, -arity), "k", name))...)
	}
	for _, fault := range faults {
		applyWithFault(t, before, stream, fault)
	}
}

// P18.2: of a space that is nil, or that nobody made, all streams are told ErrNil, also one without commands.
func TestApplyWithoutSpace(t *testing.T) {
	for _, s := range []*space.Space{nil, new(space.Space), {}} {
		for _, stream := range [][][]string{nil, {}, {nil}, told("SET k v"), told("SET k v | GET k"), told("GET k"), {{over}}} {
			if n, e := exec.Apply(s, stream...); n != 0 || e != api.ErrNil {
				t.Errorf("Apply of %s without a space = %d, %v", wroteTold(stream), n, e)
			}
		}
	}
}

// P18.2: nothing is taken out by looking, whatever the end of what is looked at; names in any letters.
func TestApplySeesWhatIsOver(t *testing.T) {
	for _, at := range []int{0, 1, 9, api.MaxTime, api.Never} {
		for _, name := range []string{"append", "APPEND", "aPPeND"} {
			applies(t, []api.Entry{ends("k", str("v"), at), ends("l", values["list"], at)}, [][]string{{name, "k", ""}, {name, "k", "w"}, words("LSET l 0 c"), words("SETNX l x")}, 4, api.OK, []api.Entry{ends("k", str("vw"), at), ends("l", api.Value{Kind: api.KList, L: []string{"c", "a"}}, at)})
		}
		applies(t, []api.Entry{ends("k", str("v"), at)}, told("LPUSH k x"), 0, api.ErrStream, []api.Entry{ends("k", str("v"), at)})
		applies(t, []api.Entry{ends("k", str("v"), at)}, told("MSETNX k x l y"), 1, api.OK, []api.Entry{ends("k", str("v"), at)})
	}
}

// P18.2: a stream of as many commands as come; the texts of each at their limits.
func TestApplyAtTheLimits(t *testing.T) {
	var stream [][]string
	var after []api.Entry
	for i := range 5000 {
		stream = append(stream, []string{"SET", strconv.Itoa(i), "v"})
		after = append(after, stay(strconv.Itoa(i), str("v")))
	}
	applies(t, nil, stream, 5000, api.OK, after)
	applies(t, nil, append(stream, words("GET 1")), 5000, api.ErrStream, after)
	applies(t, nil, [][]string{{"SET", most, most}}, 1, api.OK, []api.Entry{stay(most, str(most))})
	applies(t, entries("k=v"), [][]string{{"SET", over, "k"}}, 0, api.ErrStream, entries("k=v"))
	applies(t, entries("k=v"), [][]string{{"APPEND", "k", most}}, 0, api.ErrStream, entries("k=v"))
	applies(t, nil, [][]string{filledUp(1024, "x", "DEL")}, 1, api.OK, nil)
	applies(t, nil, [][]string{filledUp(1023, "x", "MSET")}, 1, api.OK, entries("x=x"))
	applies(t, nil, [][]string{filledUp(1024, "x", "MSET")}, 0, api.ErrStream, nil)
	applies(t, nil, [][]string{filledUp(1025, "x", "MSET")}, 0, api.ErrStream, nil)
}

// P18.3: the bytes of streams, one command behind the other.
func TestBytes(t *testing.T) {
	for _, x := range []struct {
		stream [][]string
		want   string
	}{
		{nil, ""},
		{[][]string{}, ""},
		{told("DEL k"), "*2\r\n$3\r\nDEL\r\n$1\r\nk\r\n"},
		{told("SET k v | DEL k"), "*3\r\n$3\r\nSET\r\n$1\r\nk\r\n$1\r\nv\r\n*2\r\n$3\r\nDEL\r\n$1\r\nk\r\n"},
		{told("get nothing | ''"), "*2\r\n$3\r\nget\r\n$7\r\nnothing\r\n*1\r\n$0\r\n\r\n"}, // no command is asked whether it is one
		{[][]string{{"\r\n\x00\xff", ""}, {"$", "*1\r\n"}}, "*2\r\n$4\r\n\r\n\x00\xff\r\n$0\r\n\r\n*2\r\n$1\r\n$\r\n$4\r\n*1\r\n\r\n"},
		{[][]string{{most}, {"x"}}, "*1\r\n$65536\r\n" + most + "\r\n*1\r\n$1\r\nx\r\n"},
		{[][]string{filledUp(1024, "x"), {"x"}}, "*1024\r\n" + strings.Repeat("$1\r\nx\r\n", 1024) + "*1\r\n$1\r\nx\r\n"},
	} {
		if b, e := exec.Bytes(x.stream...); e != api.OK || string(b) != x.want {
			t.Errorf("Bytes of %s = %q, %v", wroteTold(x.stream), short(string(b)), e)
		}
	}
}

// P18.3: the first command that has an error tells it, wherever it stands, and no bytes.
func TestBytesFaults(t *testing.T) {
	good := told("SET k v | DEL k | PING")
	faults := []struct {
		args []string
		e    api.Errno
	}{
		{nil, api.ErrMany}, {[]string{}, api.ErrMany}, {filledUp(1025, "x"), api.ErrMany}, {append(filledUp(1024, "x"), over), api.ErrMany}, {filledUp(5000, over), api.ErrMany},
		{[]string{over}, api.ErrLong}, {[]string{"x", over}, api.ErrLong}, {[]string{over, "x"}, api.ErrLong}, {append(filledUp(1023, "x"), over), api.ErrLong}, {[]string{over + over}, api.ErrLong},
	}
	for _, x := range faults {
		for at := range len(good) + 1 {
			stream := slices.Insert(slices.Clone(good), at, x.args)
			if b, e := exec.Bytes(stream...); e != x.e || len(b) > 0 {
				t.Errorf("Bytes with a fault at %d = %d bytes, %v; want %v", at, len(b), e, x.e)
			}
			for _, y := range faults {
				if b, e := exec.Bytes(append(stream, y.args)...); e != x.e || len(b) > 0 {
					t.Errorf("Bytes with faults at %d and at the end = %d bytes, %v; want %v", at, len(b), e, x.e)
				}
			}
		}
	}
}

// P18.3: of any texts, the bytes are those of reply.Command, one behind the other; read as requests they are the stream again.
func TestBytesOfAnyTexts(t *testing.T) {
	m := newMaker(3)
	for range 3000 {
		var stream [][]string
		var want []byte
		for range m.IntN(6) {
			args := m.any()
			if m.IntN(3) == 0 {
				args = append(args, strings.Repeat(m.text('V'), m.IntN(2000)))
			}
			one, e := reply.Command(args...)
			if e != api.OK {
				t.Fatalf("Command of %q = %v", args, e)
			}
			stream, want = append(stream, args), append(want, one...)
		}
		b, e := exec.Bytes(stream...)
		if e != api.OK || string(b) != string(want) {
			t.Fatalf("Bytes of %s = %q, %v", wroteTold(stream), b, e)
		}
		if again, wrong, e := resp.New().Feed(b); !sameTold(again, stream) || wrong != "" || e != api.OK {
			t.Fatalf("Feed of the bytes of %s = %s, %q, %v", wroteTold(stream), wroteTold(again), wrong, e)
		}
	}
}
