package strs_test

import (
	"math"
	"math/rand/v2"
	"strconv"
	"testing"

	"millpond/api"
	"millpond/strs"
)

func TestIncr(t *testing.T) {
	check(t, api.RolePrimary, 10,
		row{"", "INCR k", ":1", "SET k 1", "k=1"}, row{"k=5", "INCR k", ":6", "SET k 6", "k=6"}, row{"k=-1", "INCR k", ":0", "SET k 0", "k=0"}, row{"k=9@11", "INCR k", ":10", "SET k 10 PXAT 11", "k=10@11"}, row{"k=9@10", "INCR k", ":1", "DEL k | SET k 1", "k=1"},
		row{"", "DECR k", ":-1", "SET k -1", "k=-1"}, row{"k=5", "DECR k", ":4", "SET k 4", "k=4"}, row{"k=0", "DECR k", ":-1", "SET k -1", "k=-1"}, row{"k=10@11", "DECR k", ":9", "SET k 9 PXAT 11", "k=9@11"}, row{"k=9@10", "DECR k", ":-1", "DEL k | SET k -1", "k=-1"},
		row{"", "INCRBY k 7", ":7", "SET k 7", "k=7"}, row{"k=5@11", "INCRBY k -7", ":-2", "SET k -2 PXAT 11", "k=-2@11"}, row{"k=9@10", "INCRBY k -7", ":-7", "DEL k | SET k -7", "k=-7"},
		row{"", "DECRBY k 7", ":-7", "SET k -7", "k=-7"}, row{"k=5@11", "DECRBY k -7", ":12", "SET k 12 PXAT 11", "k=12@11"}, row{"k=9@10", "DECRBY k -7", ":7", "DEL k | SET k 7", "k=7"},
		row{"", "INCRBY k 0", ":0", "SET k 0", "k=0"}, row{"", "DECRBY k 0", ":0", "SET k 0", "k=0"}, row{"k=5", "INCRBY k 0", ":5", "", "="}, row{"k=5@11", "DECRBY k 0", ":5", "", "="}, row{"k=5@10", "DECRBY k 0", ":0", "DEL k | SET k 0", "k=0"},
	)
}

func TestIncrAtBothEnds(t *testing.T) {
	const least, greatest = "-9223372036854775808", "9223372036854775807"
	check(t, api.RolePrimary, 10,
		row{"k=" + greatest, "INCR k", "-OVER", "", "="}, row{"k=9223372036854775806", "INCR k", ":" + greatest, "SET k " + greatest, "k=" + greatest}, row{"k=" + greatest, "DECR k", ":9223372036854775806", "SET k 9223372036854775806", "k=9223372036854775806"},
		row{"k=" + least, "DECR k", "-OVER", "", "="}, row{"k=-9223372036854775807@11", "DECR k", ":" + least, "SET k " + least + " PXAT 11", "k=" + least + "@11"}, row{"k=" + least, "INCR k", ":-9223372036854775807", "SET k -9223372036854775807", "k=-9223372036854775807"},
		row{"", "INCRBY k " + least, ":" + least, "SET k " + least, "k=" + least}, row{"", "INCRBY k " + greatest, ":" + greatest, "SET k " + greatest, "k=" + greatest}, row{"", "DECRBY k " + greatest, ":-9223372036854775807", "SET k -9223372036854775807", "k=-9223372036854775807"},
		row{"", "DECRBY k " + least, "-OVER", "", "="}, row{"k=0", "DECRBY k " + least, "-OVER", "", "="}, row{"k=1", "DECRBY k " + least, "-OVER", "", "="}, row{"k=" + greatest, "DECRBY k " + least, "-OVER", "", "="}, row{"k=-1", "DECRBY k " + least, ":" + greatest, "SET k " + greatest, "k=" + greatest}, row{"k=-2", "DECRBY k " + least, ":9223372036854775806", "SET k 9223372036854775806", "k=9223372036854775806"}, row{"k=" + least, "DECRBY k " + least, ":0", "SET k 0", "k=0"},
		row{"k=" + least, "DECRBY k " + greatest, "-OVER", "", "="}, row{"k=-2", "DECRBY k " + greatest, "-OVER", "", "="}, row{"k=-1", "DECRBY k " + greatest, ":" + least, "SET k " + least, "k=" + least}, row{"k=" + greatest, "DECRBY k " + greatest, ":0", "SET k 0", "k=0"}, row{"k=" + greatest, "DECRBY k -1", "-OVER", "", "="}, row{"k=" + least, "DECRBY k 1", "-OVER", "", "="},
		row{"k=" + greatest, "INCRBY k " + greatest, "-OVER", "", "="}, row{"k=" + least, "INCRBY k " + least, "-OVER", "", "="}, row{"k=" + least, "INCRBY k " + greatest, ":-1", "SET k -1", "k=-1"}, row{"k=1", "INCRBY k " + greatest, "-OVER", "", "="}, row{"k=-1", "INCRBY k " + least, "-OVER", "", "="},
		row{"k=" + least, "INCRBY k 9223372036854775808", "-NUMBER", "", "="}, row{"k=" + least, "DECRBY k -9223372036854775809", "-NUMBER", "", "="},
	)
}

func TestIncrOfNoNumber(t *testing.T) {
	for _, v := range []string{"", "x", "1.0", "+1", "01", "-0", "1x", "0x1", "1e3", "9223372036854775808", "-9223372036854775809", "-", "--1", "٣", "1\n", "\x001"} {
		before := []api.Entry{ends("k", str(v), 11)}
		for _, args := range []string{"INCR k", "DECR k", "INCRBY k 1", "DECRBY k 1", "INCRBY k 0", "DECRBY k -9223372036854775808"} {
			checkCall(t, api.Call{Role: api.RolePrimary, Now: 10, Args: words(args)}, before, reply("-NUMBER", ""), nil, "=")
		}
		for _, name := range []string{"INCRBY", "DECRBY"} {
			for _, key := range []string{"k", "n", "l", "o"} { // one that is over isn't looked at
				checkCall(t, api.Call{Role: api.RolePrimary, Now: 10, Args: []string{name, key, v}}, entries("k=5@11 l:list o=5@10"), reply("-NUMBER", ""), nil, "=")
			}
		}
	}
	check(t, api.RolePrimary, 10, row{"k:list", "INCR k", "-WRONG", "", "="}, row{"k:set@11", "DECR k", "-WRONG", "", "="}, row{"k:zset", "INCRBY k 5", "-WRONG", "", "="}, row{"k:hash", "DECRBY k -9223372036854775808", "-WRONG", "", "="}, row{"k:list@10", "INCR k", ":1", "DEL k | SET k 1", "k=1"})
}

// Sums and differences of numbers about 0 and both ends, each pair of them.
func TestIncrOfEachPair(t *testing.T) {
	var numbers []string
	for i := range int64(4) {
		for _, n := range []int64{i, -i, math.MinInt64 + i, math.MaxInt64 - i, math.MinInt64/2 + i - 2, math.MaxInt64/2 + 2 - i, 1<<40 + i, i*10 - 1} {
			numbers = append(numbers, strconv.FormatInt(n, 10))
		}
	}
	for _, v := range numbers {
		for _, name := range []string{"incr", "decr"} {
			newTrio(t, entries("k="+v)).do(t, api.Call{Role: api.RolePrimary, Args: []string{name, "k"}})
		}
		for _, n := range numbers {
			for _, name := range []string{"incrby", "decrby"} {
				newTrio(t, entries("k="+v)).do(t, api.Call{Role: api.RolePrimary, Args: []string{name, "k", n}})
			}
		}
	}
}

// P12.4: INCRBY and DECRBY of one number, one behind the other, lead back; a key that was not there is 0 then.
func TestThereAndBack(t *testing.T) {
	m := rand.New(rand.NewPCG(12, 2))
	for i := range 4000 {
		v, n := int64(m.Uint64())>>m.IntN(64), int64(m.Uint64())>>m.IntN(64)
		if i < 40 {
			v, n = math.MinInt64+int64(i%7), math.MinInt64+int64(i%5)
		}
		for _, way := range [][]string{{"INCRBY", "DECRBY"}, {"DECRBY", "INCRBY"}} {
			before := []api.Entry{ends("k", str(strconv.FormatInt(v, 10)), 11)}
			s := load(t, before)
			first, _ := strs.Do(s, api.Call{Role: api.RolePrimary, Now: 10, Args: []string{way[0], "k", strconv.FormatInt(n, 10)}})
			if first.Kind == api.RInt {
				back, _ := strs.Do(s, api.Call{Role: api.RolePrimary, Now: 10, Args: []string{way[1], "k", strconv.FormatInt(n, 10)}})
				if back.Kind != api.RInt || back.N != v {
					t.Fatalf("%s and %s of %d, from %d, = %s", way[0], way[1], n, v, show(back))
				}
			} else if show(first) != reply("-OVER", "") {
				t.Fatalf("%s of %d to %d = %s", way[0], n, v, show(first))
			}
			holds(t, "there and back", s, before)
		}
	}
	for _, way := range []string{"INCR DECR", "DECR INCR"} {
		s := load(t, nil)
		for _, name := range words(way) {
			strs.Do(s, api.Call{Role: api.RolePrimary, Args: []string{name, "k"}})
		}
		holds(t, way, s, entries("k=0"))
	}
}
