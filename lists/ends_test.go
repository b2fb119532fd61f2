package lists_test

import (
	"strconv"
	"testing"

	"millpond/api"
	"millpond/lists"
)

func TestPush(t *testing.T) {
	check(t, api.RolePrimary, 10,
		row{"", "LPUSH k a", ":1", "LPUSH k a", "k=a"}, row{"", "LPUSH k a b c", ":3", "LPUSH k a b c", "k=c,b,a"}, row{"k=x,y@11", "LPUSH k a b", ":4", "LPUSH k a b", "k=b,a,x,y@11"}, row{"k=x", "lPush k ''", ":2", "LPUSH k ''", "k='',x"},
		row{"", "RPUSH k a", ":1", "RPUSH k a", "k=a"}, row{"", "RPUSH k a b c", ":3", "RPUSH k a b c", "k=a,b,c"}, row{"k=x,y@11", "RPUSH k a b", ":4", "RPUSH k a b", "k=x,y,a,b@11"}, row{"k=x", "rpusH k x x", ":3", "RPUSH k x x", "k=x,x,x"},
		row{"", "LPUSHX k a", ":0", "", "="}, row{"", "RPUSHX k a b", ":0", "", "="}, row{"n=a", "LPUSHX k a", ":0", "", "="},
		row{"k=x", "LPUSHX k a b", ":3", "LPUSH k a b", "k=b,a,x"}, row{"k=x@11", "RPUSHX k a b", ":3", "RPUSH k a b", "k=x,a,b@11"}, row{"k=x", "lpushx k ''", ":2", "LPUSH k ''", "k='',x"},
		row{"k:str", "LPUSH k a", "-WRONG", "", "="}, row{"k:set", "RPUSH k a b", "-WRONG", "", "="}, row{"k:zset@11", "LPUSHX k a", "-WRONG", "", "="}, row{"k:hash", "RPUSHX k a", "-WRONG", "", "="},
		row{"=x", "LPUSH '' a", ":2", "LPUSH '' a", "=a,x"}, row{"k=x", "LPUSH K a", ":1", "LPUSH K a", "K=a k=x"},
	)
}

func TestPop(t *testing.T) {
	check(t, api.RolePrimary, 10,
		row{"", "LPOP k", "nil", "", "="}, row{"k=a,b,c@11", "LPOP k", "$a", "LPOP k", "k=b,c@11"}, row{"k=a@11", "LPOP k", "$a", "LPOP k", ""}, row{"k='',b", "lpop k", "$", "LPOP k", "k=b"},
		row{"", "RPOP k", "nil", "", "="}, row{"k=a,b,c@11", "RPOP k", "$c", "RPOP k", "k=a,b@11"}, row{"k=a", "rPop k", "$a", "RPOP k", ""},
		row{"k:str", "LPOP k", "-WRONG", "", "="}, row{"k:hash", "RPOP k", "-WRONG", "", "="},
		row{"k=a,b,c", "LPOP k 0", "[]", "", "="}, row{"k=a,b,c@11", "LPOP k 1", "[$a]", "LPOP k 1", "k=b,c@11"}, row{"k=a,b,c@11", "LPOP k 2", "[$a $b]", "LPOP k 2", "k=c@11"}, row{"k=a,b,c", "LPOP k 3", "[$a $b $c]", "LPOP k 3", ""}, row{"k=a,b,c", "LPOP k 4", "[$a $b $c]", "LPOP k 3", ""}, row{"k=a,b,c", "LPOP k 9223372036854775807", "[$a $b $c]", "LPOP k 3", ""},
		row{"k=a,b,c", "RPOP k 0", "[]", "", "="}, row{"k=a,b,c@11", "RPOP k 1", "[$c]", "RPOP k 1", "k=a,b@11"}, row{"k=a,b,c@11", "RPOP k 2", "[$c $b]", "RPOP k 2", "k=a@11"}, row{"k=a,b,c", "RPOP k 3", "[$c $b $a]", "RPOP k 3", ""}, row{"k=a,b,c", "RPOP k 4294967296", "[$c $b $a]", "RPOP k 3", ""},
		row{"", "LPOP k 0", "nilarray", "", "="}, row{"", "RPOP k 5", "nilarray", "", "="}, row{"k=a@10", "RPOP k 0", "nilarray", "DEL k", ""},
		// The error that is named first is found first.
		row{"k:str", "LPOP k 0", "-WRONG", "", "="}, row{"k:set", "RPOP k 1", "-WRONG", "", "="}, row{"k:set", "LPOP k -1", "-COUNT", "", "="}, row{"k:set", "RPOP k x", "-COUNT", "", "="}, row{"k:set", "LPOP k x y", "-ARGS", "", "="}, row{"", "RPOP k -1 -1", "-ARGS", "", "="}, row{"k=a", "rpop k 1 1", "-ARGS", "", "="}, row{"k=a", "LPOP k 1 1 1", "-ARGS", "", "="},
	)
	for _, n := range []string{"-1", "-2", "-9223372036854775808", "9223372036854775808", "", "x", "+1", "01", "-0", "1.0", "1 ", " 1", "0x1", "1e0", "٣", "00", "-"} {
		for _, name := range []string{"LPOP", "RPOP", "lpop"} {
			for _, key := range []string{"k", "n", "l", "o"} {
				checkCall(t, api.Call{Role: api.RolePrimary, Now: 10, Args: []string{name, key, n}}, entries("k=a,b@11 l:set o=a@10"), reply("-COUNT", ""), nil, "=")
			}
		}
	}
}

func TestMove(t *testing.T) {
	check(t, api.RolePrimary, 10,
		row{"a=1,2,3@11 b=x,y@12", "LMOVE a b LEFT LEFT", "$1", "LMOVE a b LEFT LEFT", "a=2,3@11 b=1,x,y@12"}, row{"a=1,2,3@11 b=x,y", "LMOVE a b LEFT RIGHT", "$1", "LMOVE a b LEFT RIGHT", "a=2,3@11 b=x,y,1"},
		row{"a=1,2,3 b=x,y@12", "LMOVE a b RIGHT LEFT", "$3", "LMOVE a b RIGHT LEFT", "a=1,2 b=3,x,y@12"}, row{"a=1,2,3 b=x,y", "LMOVE a b RIGHT RIGHT", "$3", "LMOVE a b RIGHT RIGHT", "a=1,2 b=x,y,3"},
		row{"a=1,2 b=x", "lmove a b left Right", "$1", "LMOVE a b LEFT RIGHT", "a=2 b=x,1"}, row{"a=1,2 b=x", "lmove a b rIGHT lEFT", "$2", "LMOVE a b RIGHT LEFT", "a=1 b=2,x"},
		// To a key that is not there; of the last item.
		row{"a=1,2@11", "LMOVE a b LEFT RIGHT", "$1", "LMOVE a b LEFT RIGHT", "a=2@11 b=1"}, row{"a=1@11", "LMOVE a b LEFT RIGHT", "$1", "LMOVE a b LEFT RIGHT", "b=1"}, row{"a=1@11 b=x@12", "LMOVE a b RIGHT LEFT", "$1", "LMOVE a b RIGHT LEFT", "b=1,x@12"}, row{"a=1@11 b=x@10", "LMOVE a b RIGHT LEFT", "$1", "DEL b | LMOVE a b RIGHT LEFT", "b=1"},
		// Onto the list itself.
		row{"a=1,2,3@11", "LMOVE a a LEFT RIGHT", "$1", "LMOVE a a LEFT RIGHT", "a=2,3,1@11"}, row{"a=1,2,3@11", "LMOVE a a RIGHT LEFT", "$3", "LMOVE a a RIGHT LEFT", "a=3,1,2@11"}, row{"a=1,2,3", "LMOVE a a LEFT LEFT", "$1", "", "="}, row{"a=1,2,3", "LMOVE a a RIGHT RIGHT", "$3", "", "="},
		row{"a=1,2", "LMOVE a a LEFT RIGHT", "$1", "LMOVE a a LEFT RIGHT", "a=2,1"}, row{"a=1,2", "LMOVE a a RIGHT LEFT", "$2", "LMOVE a a RIGHT LEFT", "a=2,1"}, row{"a=1@11", "LMOVE a a LEFT RIGHT", "$1", "", "="}, row{"a=1", "LMOVE a a RIGHT LEFT", "$1", "", "="}, row{"a=1,1,1", "LMOVE a a LEFT RIGHT", "$1", "", "="}, row{"a=1,1,2", "LMOVE a a LEFT RIGHT", "$1", "LMOVE a a LEFT RIGHT", "a=1,2,1"},
		row{"a=''", "LMOVE a a LEFT RIGHT", "$", "", "="}, row{"a='',x", "LMOVE a a LEFT RIGHT", "$", "LMOVE a a LEFT RIGHT", "a=x,''"},
		// Other kinds, and none.
		row{"a:set b=x", "LMOVE a b LEFT LEFT", "-WRONG", "", "="}, row{"a=1 b:set", "LMOVE a b LEFT LEFT", "-WRONG", "", "="}, row{"b:set", "LMOVE a b LEFT LEFT", "nil", "", "="}, row{"b=x", "LMOVE a b LEFT LEFT", "nil", "", "="}, row{"", "LMOVE a a LEFT LEFT", "nil", "", "="}, row{"a:str", "LMOVE a a LEFT LEFT", "-WRONG", "", "="}, row{"a:str b:set", "LMOVE a b LEFT RIGHT", "-WRONG", "", "="},
		// Sides.
		row{"a=1,2 b=x", "LMOVE a b UP LEFT", "-SYNTAX", "", "="}, row{"a=1,2 b=x", "LMOVE a b LEFT DOWN", "-SYNTAX", "", "="}, row{"a=1,2 b=x", "LMOVE a b '' ''", "-SYNTAX", "", "="}, row{"a=1,2", "LMOVE a a LEFTS LEFT", "-SYNTAX", "", "="}, row{"a:set", "LMOVE a b LEFT L", "-SYNTAX", "", "="}, row{"", "LMOVE a b R LEFT", "-SYNTAX", "", "="}, row{"a=1@10", "LMOVE a b LEFT LEF", "-SYNTAX", "", "="}, row{"a=1", "LMOVE a b rıght left", "-SYNTAX", "", "="},
	)
}

func TestRPopLPush(t *testing.T) {
	check(t, api.RolePrimary, 10,
		row{"a=1,2,3@11 b=x,y@12", "RPOPLPUSH a b", "$3", "LMOVE a b RIGHT LEFT", "a=1,2@11 b=3,x,y@12"}, row{"a=1,2", "rpoplpush a b", "$2", "LMOVE a b RIGHT LEFT", "a=1 b=2"}, row{"a=1@11", "RPopLPush a b", "$1", "LMOVE a b RIGHT LEFT", "b=1"}, row{"a=1 b=x@10", "RPOPLPUSH a b", "$1", "DEL b | LMOVE a b RIGHT LEFT", "b=1"},
		row{"a=1,2,3@11", "RPOPLPUSH a a", "$3", "LMOVE a a RIGHT LEFT", "a=3,1,2@11"}, row{"a=1,2", "RPOPLPUSH a a", "$2", "LMOVE a a RIGHT LEFT", "a=2,1"}, row{"a=1", "RPOPLPUSH a a", "$1", "", "="}, row{"a=1,1", "RPOPLPUSH a a", "$1", "", "="},
		row{"a:set b=x", "RPOPLPUSH a b", "-WRONG", "", "="}, row{"a=1 b:hash", "RPOPLPUSH a b", "-WRONG", "", "="}, row{"b:set", "RPOPLPUSH a b", "nil", "", "="}, row{"", "RPOPLPUSH a a", "nil", "", "="}, row{"a:str", "RPOPLPUSH a a", "-WRONG", "", "="},
	)
}

// P13.4: what is pushed at one end and taken out there is the same, and leaves the list as it was.
func TestThereAndBack(t *testing.T) {
	for n := range 9 {
		for _, end := range []string{"L", "R"} {
			s := load(t, []api.Entry{stay("n", list("q"))})
			if n > 0 {
				s = load(t, []api.Entry{ends("k", list([]string{"a", "b", "", "a", "c", "d", "e", "f"}[:n]...), 11), stay("n", list("q"))})
			}
			before := s.Image()
			for _, item := range []string{"", "a", "x", most, "\x00\xff"} {
				c := api.Call{Role: api.RolePrimary, Now: 10, Args: []string{end + "PUSH", "k", item}}
				if r, _ := lists.Do(s, c); show(r) != ":"+strconv.Itoa(n+1) {
					t.Fatalf("%s = %s", ask(c), show(r))
				}
				c.Args = []string{end + "POP", "k"}
				if r, _ := lists.Do(s, c); show(r) != "$"+item {
					t.Fatalf("%s = %s; want %s", ask(c), short(show(r)), short(item))
				}
				holds(t, "a push and a pop", s, before)
			}
			c := api.Call{Role: api.RolePrimary, Now: 10, Args: []string{end + "PUSH", "k", "1", "2", "3"}}
			lists.Do(s, c)
			c.Args = []string{end + "POP", "k", "3"}
			if r, _ := lists.Do(s, c); show(r) != "[$3 $2 $1]" {
				t.Fatalf("%s = %s", ask(c), show(r))
			}
			holds(t, "pushes and pops", s, before)
		}
	}
}
