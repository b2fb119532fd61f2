package command_test

import (
	"math/rand/v2"
	"slices"
	"strconv"
	"strings"
	"testing"

	"millpond/api"
	"millpond/command"
)

// short is a text that a failing test can tell.
func short(s string) string {
	if len(s) > 200 {
		return strconv.Quote(s[:200]) + " and " + strconv.Itoa(len(s)-200) + " more"
	}
	return strconv.Quote(s)
}

// isZero tells whether a reply has nothing in any field.
func isZero(r api.Reply) bool { return r.Kind == 0 && r.S == "" && r.N == 0 && len(r.L) == 0 }

// checkLook: Look tells of a text what the tables do.
func checkLook(t *testing.T, text string) {
	t.Helper()
	want, known := named[modelLower(text)]
	if s, ok := command.Look(text); s != want || ok != known {
		t.Fatalf("Look(%s) = %+v, %t; want %+v, %t", short(text), s, ok, want, known)
	}
}

// checkTexts: Lower and Plain tell of a text what their models do.
func checkTexts(t *testing.T, text string) {
	t.Helper()
	if got, want := command.Lower(text), modelLower(text); got != want {
		t.Fatalf("Lower(%s) = %s; want %s", short(text), short(got), short(want))
	}
	if got, want := command.Plain(text), modelPlain(text); got != want {
		t.Fatalf("Plain(%s) = %s; want %s", short(text), short(got), short(want))
	}
}

// checkArgs: Check and Keys tell of arguments what their models do, and beside an error or a command just that.
func checkArgs(t *testing.T, args ...string) {
	t.Helper()
	want, told := modelCheck(args)
	s, r, ok := command.Check(args...)
	if s != want || ok != (told == "") {
		t.Fatalf("Check of %d, %.20q, = %+v, %t; want %+v", len(args), args, s, ok, want)
	}
	if !ok && (r.Kind != api.RError || r.S != told || r.N != 0 || len(r.L) > 0) {
		t.Fatalf("Check of %d, %.20q, tells %+v; want the error %s", len(args), args, r, short(told))
	}
	if ok && !isZero(r) {
		t.Fatalf("Check of %d, %.20q, tells %+v beside a command", len(args), args, r)
	}
	keys, e := command.Keys(args...)
	if !ok {
		if e != api.ErrArg || len(keys) > 0 {
			t.Fatalf("Keys of %d, %.20q, = %.20q, %v; want ErrArg", len(args), args, keys, e)
		}
		return
	}
	if e != api.OK || !slices.Equal(keys, modelKeys(want, args)) {
		t.Fatalf("Keys of %d, %.20q, = %.20q, %v; want %.20q", len(args), args, keys, e, modelKeys(want, args))
	}
}

// numbered are a command's name and so many arguments behind it, all unlike.
func numbered(name string, n int) []string {
	args := []string{name}
	for i := range n {
		args = append(args, "arg"+strconv.Itoa(i+1))
	}
	return args
}

// mixed is a name with great letters at the places of a number's bits.
func mixed(name string, bits int) string {
	b := []byte(name)
	for i := range b {
		if bits>>i&1 == 1 {
			b[i] -= 'a' - 'A'
		}
	}
	return string(b)
}

// ofByte is a text of one byte.
func ofByte(c int) string { return string([]byte{byte(c)}) }

// Letters of more than one byte, some of which Go takes for the great or small ones of A to Z, and bytes that are no letters' at all.
var foreign = []string{"\u212a", "\u017f", "\u0130", "\u0131", "É", "é", "Ä", "ß", "ẞ", "Σ", "Ж", "\uff21", "\uff41", "𝐀", "\xc3", "\x80", "\xff\xfe", "\xed\xa0\x80", "\ufffd"}

// The examples

func TestTheExamples(t *testing.T) {
	get := api.Spec{Name: "get", Group: api.GString, Arity: 2, First: 1, Last: 1, Step: 1}
	if s, r, ok := command.Check("GeT", "k"); s != get || !isZero(r) || !ok {
		t.Errorf("Check of GeT k = %+v, %+v, %t", s, r, ok)
	}
	if s, r, ok := command.Check("get"); s != (api.Spec{}) || r.Kind != api.RError || r.S != "ERR wrong number of arguments for 'get' command" || ok {
		t.Errorf("Check of get = %+v, %+v, %t", s, r, ok)
	}
	if keys, e := command.Keys("mset", "a", "1", "b", "2"); !slices.Equal(keys, []string{"a", "b"}) || e != api.OK {
		t.Errorf("Keys of mset a 1 b 2 = %q, %v", keys, e)
	}
}

// P11.1: All

func TestAllTellsEachRowOfTheTables(t *testing.T) {
	all := command.All()
	if len(all) != 99 || len(listed()) != 99 {
		t.Fatalf("All tells %d commands; the tables have %d", len(all), len(listed()))
	}
	for _, want := range listed() {
		i := slices.IndexFunc(all, func(s api.Spec) bool { return s.Name == want.Name })
		if i < 0 {
			t.Errorf("All doesn't tell %s", want.Name)
		} else if all[i] != want {
			t.Errorf("All tells %+v; want %+v", all[i], want)
		}
	}
}

func TestAllTellsSomeRowsAsWritten(t *testing.T) {
	all := command.All()
	for _, want := range []api.Spec{
		{Name: "append", Group: api.GString, Arity: 3, Write: true, First: 1, Last: 1, Step: 1},
		{Name: "del", Group: api.GKey, Arity: -2, Write: true, First: 1, Last: -1, Step: 1},
		{Name: "flushall", Group: api.GKey, Arity: 1, Write: true},
		{Name: "hset", Group: api.GHash, Arity: -4, Write: true, First: 1, Last: 1, Step: 1},
		{Name: "keys", Group: api.GKey, Arity: 2},
		{Name: "lmove", Group: api.GList, Arity: 5, Write: true, First: 1, Last: 2, Step: 1},
		{Name: "msetnx", Group: api.GString, Arity: -3, Write: true, First: 1, Last: -1, Step: 2},
		{Name: "ping", Group: api.GServer, Arity: -1},
		{Name: "sinter", Group: api.GSet, Arity: -2, First: 1, Last: -1, Step: 1},
		{Name: "zscore", Group: api.GZset, Arity: 3, First: 1, Last: 1, Step: 1},
	} {
		if !slices.Contains(all, want) {
			t.Errorf("All doesn't tell %+v", want)
		}
	}
}

func TestAllTellsByName(t *testing.T) {
	all := command.All()
	for i := 1; i < len(all); i++ {
		if all[i-1].Name >= all[i].Name {
			t.Errorf("All tells %s ahead of %s", all[i-1].Name, all[i].Name)
		}
	}
	if first, last := all[0].Name, all[len(all)-1].Name; first != "append" || last != "zscore" {
		t.Errorf("All begins with %s and ends with %s", first, last)
	}
}

func TestAllOfEachGroup(t *testing.T) {
	many := map[api.Group]int{}
	for _, s := range command.All() {
		many[s.Group]++
	}
	for g, want := range map[api.Group]int{api.GString: 18, api.GList: 15, api.GSet: 15, api.GZset: 15, api.GHash: 12, api.GKey: 16, api.GServer: 8} {
		if many[g] != want {
			t.Errorf("All tells %d commands of group %d; want %d", many[g], g, want)
		}
	}
}

func TestAllAgainWhenWhatItToldIsChanged(t *testing.T) {
	all := command.All()
	was := slices.Clone(all)
	for i := range all {
		all[i] = api.Spec{Name: "changed", Group: 99, Arity: 99, First: 99, Last: 99, Step: 99}
	}
	all = all[:cap(all)]
	clear(all)
	if again := command.All(); !slices.Equal(again, was) {
		t.Errorf("All tells %+v when what it told is changed", again)
	}
	for _, s := range was {
		checkLook(t, s.Name)
	}
}

// P11.1: Look

func TestLookOfEachName(t *testing.T) {
	for _, want := range listed() {
		for _, text := range []string{want.Name, strings.ToUpper(want.Name)} {
			if s, ok := command.Look(text); s != want || !ok {
				t.Errorf("Look(%q) = %+v, %t; want %+v", text, s, ok, want)
			}
		}
		checkLook(t, strings.ToUpper(want.Name[:1])+want.Name[1:])
		checkLook(t, want.Name[:1]+strings.ToUpper(want.Name[1:]))
	}
}

// P11.4 (one each), too: whatever the case, each name leads to its command, and to no other one.
func TestLookOfEachNameInEachCase(t *testing.T) {
	for _, want := range command.All() {
		for bits := range 1 << len(want.Name) {
			text := mixed(want.Name, bits)
			if s, ok := command.Look(text); s != want || !ok {
				t.Fatalf("Look(%q) = %+v, %t; want %+v", text, s, ok, want)
			}
		}
	}
}

func TestLookOfNoName(t *testing.T) {
	for _, text := range []string{"", " ", "get ", " get", "get\n", "get\x00", "\x00get", "ge", "gett", "g", "g?t", "*", "get set", "mgets", "hmset", "select", "info", "config", "replica", "no", "ERR", "\r\n", "GET\r\n", "'get'", "zadd-", "lpushlpush"} {
		if s, ok := command.Look(text); s != (api.Spec{}) || ok {
			t.Errorf("Look(%q) = %+v, %t", text, s, ok)
		}
	}
	for _, s := range listed() {
		for _, text := range []string{s.Name + " ", " " + s.Name, s.Name + s.Name, s.Name + "\x00", s.Name + "\n", s.Name[1:], s.Name[:len(s.Name)-1]} {
			checkLook(t, text)
		}
	}
}

// Each byte at each place of each name, and put in there, and each one left out, in small letters and in great ones.
func TestLookOfEachByteAtEachPlace(t *testing.T) {
	for _, s := range listed() {
		for _, name := range []string{s.Name, strings.ToUpper(s.Name)} {
			for i := range len(name) + 1 {
				for c := range 256 {
					checkLook(t, name[:i]+ofByte(c)+name[i:])
					if i < len(name) {
						checkLook(t, name[:i]+ofByte(c)+name[i+1:])
					}
				}
				if i < len(name) {
					checkLook(t, name[:i]+name[i+1:])
				}
			}
		}
	}
}

// A letter of more than one byte is none of A to Z, also where Go's own small letters make one of it.
func TestLookOfForeignLetters(t *testing.T) {
	for _, text := range []string{"\u212aeys", "\u017fet", "l\u0130ndex", "LINDE\u0130", "zran\u212a", "p\u0131ng", "ｇｅｔ", "GÉT"} {
		if s, ok := command.Look(text); s != (api.Spec{}) || ok {
			t.Errorf("Look(%q) = %+v, %t", text, s, ok)
		}
	}
	for _, s := range listed() {
		for i := range s.Name {
			for _, letter := range foreign {
				checkLook(t, s.Name[:i]+letter+s.Name[i+1:])
			}
		}
	}
}

func TestLookOfLongTexts(t *testing.T) {
	for _, n := range []int{17, 128, 129, 65536, 65537, 1 << 20} {
		for _, text := range []string{strings.Repeat("a", n), "get" + strings.Repeat(" ", n), "get" + strings.Repeat("\x00", n), strings.Repeat("GET", n), strings.Repeat("\xff", n)} {
			if s, ok := command.Look(text); s != (api.Spec{}) || ok {
				t.Errorf("Look(%s) = %+v, %t", short(text), s, ok)
			}
		}
	}
}

func TestLookOfMixedTexts(t *testing.T) {
	m := rand.New(rand.NewPCG(11, 1))
	for range 100000 {
		b := make([]byte, m.IntN(18))
		for i := range b {
			b[i] = byte(m.IntN(256))
		}
		checkLook(t, string(b))
	}
}

// P11.1: Lower, Plain

func TestLower(t *testing.T) {
	for text, want := range map[string]string{
		"": "", "GET": "get", "GeT": "get", "get": "get", "SETEX": "setex", "@AZ[`az{": "@az[`az{", "A B\tC\x00D": "a b\tc\x00d", "0-9 _-": "0-9 _-",
		great: little, little: little, great + little: little + little,
		"É": "É", "\u212a": "\u212a", "\u0130": "\u0130", "Ä\xffZ": "Ä\xffz", "\xc1\xda\xe1": "\xc1\xda\xe1", "ÀÉA": "ÀÉa", "Ж": "Ж",
	} {
		if got := command.Lower(text); got != want {
			t.Errorf("Lower(%q) = %q; want %q", text, got, want)
		}
	}
}

func TestPlain(t *testing.T) {
	long := strings.Repeat("abcdefgh", 16)
	for text, want := range map[string]string{
		"": "", "GeT k": "GeT k", " !~": " !~", "\x1f \x7e\x7f": ". ~.", "a\r\nb": "a..b", "\x00\x80\xff": "...", "é": "..", "\u212a": "...", "'": "'", `\"`: `\"`, "\t": ".",
		plainBytes: plainBytes,
		long[1:]:   long[1:], long: long, long + "i": long, long + "\n": long, "i" + long: "i" + long[:127],
		long[1:] + "\n": long[1:] + ".", long[1:] + "\ni": long[1:] + ".", long[1:] + "é": long[1:] + ".", long[2:] + "é": long[2:] + "..",
	} {
		if got := command.Plain(text); got != want {
			t.Errorf("Plain(%q) = %q; want %q", text, got, want)
		}
	}
}

func TestLowerAndPlainOfEachByte(t *testing.T) {
	for a := range 256 {
		checkTexts(t, ofByte(a))
		for b := range 256 {
			checkTexts(t, ofByte(a)+ofByte(b))
		}
		for n := range 260 {
			checkTexts(t, strings.Repeat(ofByte(a), n))
		}
	}
	for c, want := range map[int]string{0: ".", 31: ".", 32: " ", 64: "@", 65: "A", 90: "Z", 91: "[", 96: "`", 97: "a", 122: "z", 123: "{", 126: "~", 127: ".", 128: ".", 255: "."} {
		if got := command.Plain(ofByte(c)); got != want {
			t.Errorf("Plain of the byte %d = %q; want %q", c, got, want)
		}
	}
	for c := range 256 {
		want := ofByte(c)
		if c >= 65 && c <= 90 {
			want = ofByte(c + 32)
		}
		if got := command.Lower(ofByte(c)); got != want {
			t.Errorf("Lower of the byte %d = %q; want %q", c, got, want)
		}
	}
}

// Each byte at each place about the end of what Plain tells, and in the middle of a text for Lower.
func TestLowerAndPlainAtEachPlace(t *testing.T) {
	for _, n := range []int{1, 2, 126, 127, 128, 129, 130, 255, 256, 1000} {
		b := []byte(strings.Repeat("aZ", n))[:n]
		for i := range b {
			was := b[i]
			for _, c := range []byte{0, 31, 32, 'A', 'Z', '[', '@', 'a', 'z', 126, 127, 128, 255} {
				b[i] = c
				checkTexts(t, string(b))
			}
			b[i] = was
		}
	}
	for _, letter := range foreign {
		for n := 120; n < 130; n++ {
			checkTexts(t, strings.Repeat("Q", n)+letter+"Q")
		}
	}
	for _, n := range []int{65536, 65537, 1 << 20} {
		checkTexts(t, strings.Repeat("Gé\n", n))
	}
}

// P11.2

func TestCheckTellsTheErrors(t *testing.T) {
	long := strings.Repeat("abcdefgh", 16)
	for _, c := range []struct {
		args []string
		want string
	}{
		{nil, "ERR unknown command ''"},
		{[]string{}, "ERR unknown command ''"},
		{[]string{""}, "ERR unknown command ''"},
		{[]string{"", "get"}, "ERR unknown command ''"},
		{[]string{"nope"}, "ERR unknown command 'nope'"},
		{[]string{"NoPe", "k"}, "ERR unknown command 'NoPe'"},
		{[]string{"get k"}, "ERR unknown command 'get k'"},
		{[]string{"it's"}, "ERR unknown command 'it's'"},
		{[]string{"get\r\n"}, "ERR unknown command 'get..'"},
		{[]string{"\x00\x1f\x7f\x80\xff ~"}, "ERR unknown command '..... ~'"},
		{[]string{"\u212aEYS", "*"}, "ERR unknown command '...EYS'"},
		{[]string{long[1:]}, "ERR unknown command '" + long[1:] + "'"},
		{[]string{long}, "ERR unknown command '" + long + "'"},
		{[]string{long + "i", "k"}, "ERR unknown command '" + long + "'"},
		{[]string{"\n" + long}, "ERR unknown command '." + long[:127] + "'"},
		{[]string{"get"}, "ERR wrong number of arguments for 'get' command"},
		{[]string{"GET"}, "ERR wrong number of arguments for 'get' command"},
		{[]string{"GeT", "a", "b"}, "ERR wrong number of arguments for 'get' command"},
		{[]string{"set", "k"}, "ERR wrong number of arguments for 'set' command"},
		{[]string{"MSET", "k"}, "ERR wrong number of arguments for 'mset' command"},
		{[]string{"zRemRangeByScore"}, "ERR wrong number of arguments for 'zremrangebyscore' command"},
		{[]string{"keys"}, "ERR wrong number of arguments for 'keys' command"},
		{[]string{"dbsize", ""}, "ERR wrong number of arguments for 'dbsize' command"},
		{[]string{"wait", "1"}, "ERR wrong number of arguments for 'wait' command"},
		{[]string{"quit", "now"}, "ERR wrong number of arguments for 'quit' command"},
	} {
		s, r, ok := command.Check(c.args...)
		if s != (api.Spec{}) || r.Kind != api.RError || r.S != c.want || r.N != 0 || len(r.L) > 0 || ok {
			t.Errorf("Check of %q = %+v, %+v, %t; want %s", c.args, s, r, ok, c.want)
		}
		checkArgs(t, c.args...)
	}
}

// Every command, its name in small letters, great ones and both, with as many arguments as it may have, with fewer and with more.
func TestCheckAndKeysOfEachNumberOfArguments(t *testing.T) {
	for _, s := range listed() {
		for _, name := range []string{s.Name, strings.ToUpper(s.Name), mixed(s.Name, 0b10101010101010101), mixed(s.Name, 1)} {
			for n := range 12 {
				checkArgs(t, numbered(name, n)...)
			}
		}
		for _, n := range []int{1022, 1023, 1024, 1025, 5000} {
			checkArgs(t, numbered(s.Name, n)...)
		}
	}
}

// The least and the most that the tables allow, told by hand from the arity's sign.
func TestCheckAtTheEdgeOfArity(t *testing.T) {
	for _, s := range listed() {
		least, more := max(s.Arity, -s.Arity), s.Arity < 0
		for n, want := range map[int]bool{least - 1: false, least: true, least + 1: more, least + 2: more} {
			if n < 1 {
				continue
			}
			got, r, ok := command.Check(numbered(s.Name, n-1)...)
			if ok != want || ok && (got != s || !isZero(r)) || !ok && got != (api.Spec{}) {
				t.Errorf("Check of %s with %d arguments = %+v, %+v, %t", s.Name, n, got, r, ok)
			}
		}
	}
}

// Arguments behind the name are of no account, whatever they are.
func TestCheckOfOddArguments(t *testing.T) {
	odd := []string{"", "\x00", "\r\n", "get", "GET", strings.Repeat("k", 65537), "\xff\xfe", "-1", "*"}
	for _, s := range listed() {
		for n := range 7 {
			for i := range odd {
				args := []string{strings.ToUpper(s.Name)}
				for j := range n {
					args = append(args, odd[(i+j)%len(odd)])
				}
				checkArgs(t, args...)
			}
		}
	}
	for _, name := range append(odd[:3:3], odd[5:]...) {
		for n := range 5 {
			checkArgs(t, numbered(name, n)...)
		}
	}
}

// P11.3

func TestKeys(t *testing.T) {
	for line, want := range map[string]string{
		"get k":                          "k",
		"SET k v EX 2":                   "k",
		"mget a":                         "a",
		"MGET a b c":                     "a b c",
		"mget a a b a":                   "a a b a",
		"mset a 1":                       "a",
		"mset a 1 b":                     "a b",
		"mset a 1 b 2":                   "a b",
		"mset a 1 b 2 c":                 "a b c",
		"MSETNX b 1 a 2 b 3":             "b a b",
		"lpush l a b c":                  "l",
		"rpoplpush a b":                  "a b",
		"lmove b a left right":           "b a",
		"smove from to m":                "from to",
		"smove s s m":                    "s s",
		"linsert l before p v":           "l",
		"sinter z y x":                   "z y x",
		"sunionstore d a":                "d a",
		"sdiffstore d b a b":             "d b a b",
		"zadd z 1 m 2 n":                 "z",
		"zrangebyscore z 1 2 limit 0 1":  "z",
		"hset h f v g w":                 "h",
		"hmget h a b c":                  "h",
		"del c b a":                      "c b a",
		"exists k":                       "k",
		"rename a b":                     "a b",
		"renamenx b a":                   "b a",
		"expire k 1":                     "k",
		"keys *":                         "",
		"randomkey":                      "",
		"dbsize":                         "",
		"flushall":                       "",
		"ping":                           "",
		"ping a b c":                     "",
		"echo k":                         "",
		"wait 1 0":                       "",
		"replicaof no one":               "",
		"replconf ack 5":                 "",
		"psync ? -1":                     "",
		"role":                           "",
		"quit":                           "",
		"sRandMember s 3":                "s",
		"zincrby z 1 m":                  "z",
		"pexpireat k 5":                  "k",
		"strlen strlen":                  "strlen",
		"persist persist":                "persist",
		"sinterstore dest a b c d e f g": "dest a b c d e f g",
	} {
		args := strings.Fields(line)
		keys, e := command.Keys(args...)
		if e != api.OK || !slices.Equal(keys, strings.Fields(want)) {
			t.Errorf("Keys of %s = %q, %v; want %s", line, keys, e, want)
		}
		checkArgs(t, args...)
	}
}

func TestKeysWhereCheckTellsAnError(t *testing.T) {
	for _, args := range [][]string{nil, {}, {""}, {"nope", "k"}, {"get"}, {"get", "a", "b"}, {"mset", "a"}, {"mget"}, {"del"}, {"sunionstore", "d"}, {"rename", "a"}, {"rename", "a", "b", "c"}, {"lmove", "a", "b", "left"}, {"keys"}, {"ping\x00"}, {"dbsize", "a"}, {strings.Repeat("get", 100), "k"}} {
		if keys, e := command.Keys(args...); e != api.ErrArg || len(keys) > 0 {
			t.Errorf("Keys of %q = %q, %v; want ErrArg", args, keys, e)
		}
	}
}

// The keys of commands up to the last argument, with even and odd numbers of arguments.
func TestKeysUpToTheLastArgument(t *testing.T) {
	for _, s := range listed() {
		if s.Last >= 0 {
			continue
		}
		for n := -s.Arity; n < 40; n++ {
			args := numbered(s.Name, n-1)
			var want []string
			for i := 1; i < len(args); i++ {
				if s.Step == 1 || i%2 == 1 {
					want = append(want, args[i])
				}
			}
			if keys, e := command.Keys(args...); e != api.OK || !slices.Equal(keys, want) {
				t.Errorf("Keys of %q = %q, %v; want %q", args, keys, e, want)
			}
		}
	}
}

// What follows

// P11.4
func TestNamesAreAllUnlike(t *testing.T) {
	seen := map[string]bool{}
	for _, s := range command.All() {
		if seen[s.Name] || command.Lower(s.Name) != s.Name || s.Name == "" || command.Plain(s.Name) != s.Name {
			t.Errorf("%q is told twice, or it is no name", s.Name)
		}
		seen[s.Name] = true
		for _, text := range []string{s.Name, strings.ToUpper(s.Name)} {
			if got, ok := command.Look(text); got != s || !ok {
				t.Errorf("Look(%q) = %+v, %t; want %+v", text, got, ok, s)
			}
		}
	}
}

// P11.5
func TestKeysStandAmongTheArguments(t *testing.T) {
	for _, s := range command.All() {
		for n := range 40 {
			args := numbered(s.Name, n)
			if _, _, ok := command.Check(args...); !ok {
				continue
			}
			keys, e := command.Keys(args...)
			if e != api.OK || (len(keys) > 0) != (s.First > 0) {
				t.Errorf("Keys of %s with %d arguments = %q, %v", s.Name, n, keys, e)
			}
			at := 0
			for _, key := range keys {
				i := slices.Index(args, key)
				if i <= at {
					t.Errorf("Keys of %s with %d arguments = %q, not in the order of the arguments", s.Name, n, keys)
				}
				at = i
			}
		}
	}
}

// Mixed rows of arguments.
func TestMixedArguments(t *testing.T) {
	m := rand.New(rand.NewPCG(11, 2))
	all := listed()
	for range 50000 {
		s := all[m.IntN(len(all))]
		name := mixed(s.Name, m.IntN(1<<17))
		if m.IntN(8) == 0 {
			name += ofByte(m.IntN(256))
		}
		args := []string{name}
		for range m.IntN(8) {
			args = append(args, []string{"", "a", "b", "\x00", name, "k"}[m.IntN(6)])
		}
		checkArgs(t, args...)
	}
}
