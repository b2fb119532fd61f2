package reply_test

import (
	"bytes"
	"math"
	"slices"
	"strconv"
	"strings"
	"testing"

	"millpond/api"
	"millpond/reply"
)

// short is a text that a failing test can tell.
func short[T string | []byte](s T) string {
	if len(s) > 90 {
		return strconv.Quote(string(s[:90])) + " and " + strconv.Itoa(len(s)-90) + " more"
	}
	return strconv.Quote(string(s))
}

// alike is Same, written once more: a test that leans on Same could not see that it always tells true.
func alike(a, b api.Reply) bool {
	if a.Kind != b.Kind || a.S != b.S || a.N != b.N {
		return false
	}
	return allAlike(a.L, b.L)
}

func allAlike(a, b []api.Reply) bool {
	if len(a) != len(b) {
		return false
	}
	for i := range a {
		if !alike(a[i], b[i]) {
			return false
		}
	}
	return true
}

func isZero(r api.Reply) bool { return alike(r, api.Reply{}) }

// checkMay: a reply that may be has these bytes, and is read from them, whatever stands behind.
func checkMay(t *testing.T, r api.Reply, want string) {
	t.Helper()
	if e := reply.Check(r); e != api.OK {
		t.Errorf("Check of what has the bytes %s: %d", short(want), e)
	}
	b, e := reply.Encode(r)
	if string(b) != want || e != api.OK {
		t.Errorf("Encode = %s, %d; want %s", short(b), e, short(want))
	}
	for _, behind := range []string{"", "\r\n", "+", "0", want} {
		got, n, e := reply.Decode([]byte(want + behind))
		if !alike(got, r) || n != len(want) || e != api.OK {
			t.Errorf("Decode(%s) = %d bytes, %d; want %d", short(want+behind), n, e, len(want))
		}
	}
	if !reply.Same(r, r) {
		t.Errorf("what has the bytes %s is not the same as itself", short(want))
	}
}

func checkMayNot(t *testing.T, name string, r api.Reply, want api.Errno) {
	t.Helper()
	if e := reply.Check(r); e != want {
		t.Errorf("Check(%s) = %d; want %d", name, e, want)
	}
	if b, e := reply.Encode(r); len(b) != 0 || e != want {
		t.Errorf("Encode(%s) = %s, %d; want %d", name, short(b), e, want)
	}
}

// checkPlace: no reply begins these bytes, and this is told of them.
func checkPlace(t *testing.T, s string, place int, want api.Errno) {
	t.Helper()
	r, n, e := reply.Decode([]byte(s))
	if !isZero(r) || n != place || e != want {
		t.Errorf("Decode(%s) = kind %d, %d, %d; want %d, %d", short(s), r.Kind, n, e, place, want)
	}
}

// checkDecode: what the model tells of bytes is told of them, and what is read has just these bytes.
func checkDecode(t *testing.T, b []byte) {
	t.Helper()
	place, want := modelPlace(b)
	r, n, e := reply.Decode(b)
	if n != place || e != want {
		t.Fatalf("Decode(%s) = %d, %d; want %d, %d", short(b), n, e, place, want)
	}
	if want != api.OK {
		if !isZero(r) {
			t.Fatalf("Decode(%s) tells a reply beside the error", short(b))
		}
		return
	}
	if back, e := reply.Encode(r); e != api.OK || !bytes.Equal(back, b[:n]) {
		t.Fatalf("Decode(%s), then Encode: %s, %d", short(b), short(back), e)
	}
}

// samples are replies of all kinds, and their bytes.
func samples() map[string]api.Reply {
	return map[string]api.Reply{
		"+OK\r\n":                               simple("OK"),
		"+\r\n":                                 simple(""),
		"+ $3:*-+\x00\x0b\x0c\x7f\xff\r\n":      simple(" $3:*-+\x00\x0b\x0c\x7f\xff"),
		"-ERR no\r\n":                           failure("ERR no"),
		"-\r\n":                                 failure(""),
		":0\r\n":                                integer(0),
		":7\r\n":                                integer(7),
		":-1\r\n":                               integer(-1),
		":1000\r\n":                             integer(1000),
		":9223372036854775807\r\n":              integer(math.MaxInt64),
		":-9223372036854775808\r\n":             integer(math.MinInt64),
		"$3\r\nabc\r\n":                         bulk("abc"),
		"$0\r\n\r\n":                            bulk(""),
		"$4\r\n\r\n\r\n\r\n":                    bulk("\r\n\r\n"),
		"$10\r\n0123456789\r\n":                 bulk("0123456789"),
		"$-1\r\n":                               nilBulk,
		"*-1\r\n":                               nilArray,
		"*0\r\n":                                array(),
		"*1\r\n*0\r\n":                          array(array()),
		"*2\r\n$-1\r\n*-1\r\n":                  array(nilBulk, nilArray),
		"*3\r\n:1\r\n*2\r\n+a\r\n-b\r\n*-1\r\n": array(integer(1), array(simple("a"), failure("b")), nilArray),
		"*1\r\n*1\r\n*1\r\n*1\r\n*1\r\n*1\r\n*1\r\n*1\r\n$1\r\n*\r\n": nested(8, bulk("*")),
		"*1\r\n*1\r\n*1\r\n*1\r\n*1\r\n*1\r\n*1\r\n*1\r\n*-1\r\n":     nested(8, nilArray),
		"*1\r\n*1\r\n*1\r\n*1\r\n*1\r\n*1\r\n*1\r\n*0\r\n":            nested(7, array()),
	}
}

// P3.1

func TestCheckAndEncodeOfAllKinds(t *testing.T) {
	for want, r := range samples() {
		checkMay(t, r, want)
	}
}

func TestNilAndEmptyListsAreTheSame(t *testing.T) {
	for _, x := range []struct {
		r    api.Reply
		want string
	}{
		{simple("a"), "+a\r\n"}, {failure("a"), "-a\r\n"}, {integer(3), ":3\r\n"}, {bulk("a"), "$1\r\na\r\n"}, {nilBulk, "$-1\r\n"}, {nilArray, "*-1\r\n"}, {array(), "*0\r\n"},
	} {
		with := x.r
		with.L = []api.Reply{}
		checkMay(t, with, x.want)
		checkMay(t, array(with, x.r), "*2\r\n"+x.want+x.want)
		if !reply.Same(with, x.r) || !reply.Same(x.r, with) || !reply.Same(array(x.r), array(with)) {
			t.Errorf("%s: nil and empty lists are not the same", short(x.want))
		}
	}
}

func TestCheckOfKinds(t *testing.T) {
	for _, k := range []api.ReplyKind{0, -1, 8, 9, 100, math.MaxInt, math.MinInt} {
		name := "kind " + strconv.Itoa(int(k))
		checkMayNot(t, name, api.Reply{Kind: k}, api.ErrReply)
		checkMayNot(t, name, api.Reply{Kind: k, S: "a", N: 1}, api.ErrReply)
		checkMayNot(t, name+" in an array", array(nilBulk, api.Reply{Kind: k}), api.ErrReply)
		checkMayNot(t, name+" in eight arrays", nested(8, api.Reply{Kind: k}), api.ErrReply)
	}
}

// All that a kind does not name is zero.
func TestCheckOfFieldsThatAreNotNamed(t *testing.T) {
	for _, x := range []struct {
		r       api.Reply
		s, n, l bool // which fields are named
	}{
		{simple("a"), true, false, false}, {simple(""), true, false, false}, {failure("a"), true, false, false}, {integer(0), false, true, false}, {integer(-1), false, true, false},
		{bulk("a"), true, false, false}, {bulk(""), true, false, false}, {nilBulk, false, false, false}, {nilArray, false, false, false}, {array(), false, false, true}, {array(nilBulk), false, false, true},
	} {
		check := func(name string, r api.Reply, named bool) {
			t.Helper()
			name = "kind " + strconv.Itoa(int(x.r.Kind)) + " with " + name
			for _, around := range []api.Reply{r, array(r), array(nilBulk, array(r), nilBulk)} {
				if !named {
					checkMayNot(t, name, around, api.ErrReply)
				} else if e := reply.Check(around); e != api.OK {
					t.Errorf("Check(%s) = %d", name, e)
				}
			}
		}
		r := x.r
		r.S = " "
		check("a text", r, x.s)
		r = x.r
		for _, r.N = range []int64{1, -1, math.MaxInt64, math.MinInt64} {
			check("a number", r, x.n)
		}
		r = x.r
		r.L = []api.Reply{bulk("b")}
		check("a list", r, x.l)
		r.L = []api.Reply{{}}
		check("a list of a zero reply", r, false)
	}
}

func TestCheckOfTexts(t *testing.T) {
	most := strings.Repeat("ab", 32768)
	for _, x := range []struct {
		mark string
		make func(string) api.Reply
	}{{"+", simple}, {"-", failure}} {
		checkMay(t, x.make(most), x.mark+most+"\r\n")
		checkMay(t, x.make(most[1:]), x.mark+most[1:]+"\r\n")
		checkMayNot(t, x.mark+" and 65537 bytes", x.make(most+"a"), api.ErrReply)
		checkMayNot(t, x.mark+" and 65537 bytes in an array", array(x.make(most+"a")), api.ErrReply)
		for _, end := range []string{"\r", "\n", "\r\n"} {
			for _, s := range []string{end, "a" + end, end + "a", "a" + end + "b", most[len(end):] + end, most + end, end + most[len(end):]} {
				checkMayNot(t, x.mark+short(s), x.make(s), api.ErrReply)
				checkMayNot(t, x.mark+short(s)+" in an array", array(nilBulk, x.make(s)), api.ErrReply)
			}
		}
		for c := range 256 {
			s := "a" + string([]byte{byte(c)}) + "b"
			if c == 13 || c == 10 {
				checkMayNot(t, x.mark+short(s), x.make(s), api.ErrReply)
				continue
			}
			checkMay(t, x.make(s), x.mark+s+"\r\n")
		}
	}
	for _, end := range []string{"", "\r", "\n", "\r\n"} {
		checkMay(t, bulk(most[len(end):]+end), "$65536\r\n"+most[len(end):]+end+"\r\n")
		checkMayNot(t, "a bulk of 65537 bytes", bulk(most+"a"+end), api.ErrReply)
	}
	checkMayNot(t, "a bulk of 65537 bytes in an array", array(bulk("a"), bulk(most+"a")), api.ErrReply)
}

func TestCheckOfManyItems(t *testing.T) {
	most := slices.Repeat([]api.Reply{nilBulk}, 131072)
	items := strings.Repeat("$-1\r\n", 131072)
	checkMay(t, array(most...), "*131072\r\n"+items)
	checkMay(t, nested(7, array(most...)), strings.Repeat("*1\r\n", 7)+"*131072\r\n"+items)
	checkMay(t, array(array(most...), array(most[1:]...)), "*2\r\n*131072\r\n"+items+"*131071\r\n"+items[5:])
	beyond := array(append(most, nilBulk)...)
	checkMayNot(t, "131073 items", beyond, api.ErrReply)
	checkMayNot(t, "131073 items in an array", array(nilBulk, beyond), api.ErrReply)
	checkMayNot(t, "131073 items in eight arrays", nested(7, beyond), api.ErrReply)
	most[131071] = api.Reply{}
	checkMayNot(t, "131072 items, the last one zero", array(most...), api.ErrReply)
}

func TestCheckOfNestedArrays(t *testing.T) {
	inner := []api.Reply{simple("a"), failure("a"), integer(1), bulk("a"), nilBulk, nilArray}
	for _, r := range inner {
		b, _ := reply.Encode(r)
		checkMay(t, nested(8, r), strings.Repeat("*1\r\n", 8)+string(b))
		for n := 9; n < 12; n++ {
			checkMayNot(t, strconv.Itoa(n)+" arrays", nested(n, r), api.ErrNested)
		}
	}
	checkMay(t, nested(7, array(inner...)), strings.Repeat("*1\r\n", 7)+"*6\r\n+a\r\n-a\r\n:1\r\n$1\r\na\r\n$-1\r\n*-1\r\n")
	checkMay(t, nested(7, array()), strings.Repeat("*1\r\n", 7)+"*0\r\n")
	checkMayNot(t, "nine arrays, the innermost empty", nested(8, array()), api.ErrNested)
	checkMayNot(t, "60000 arrays", nested(60000, nilBulk), api.ErrNested)
	checkMay(t, array(nested(7, nilBulk), nested(7, nilBulk)), "*2\r\n"+strings.Repeat(strings.Repeat("*1\r\n", 7)+"$-1\r\n", 2))
	checkMayNot(t, "eight arrays behind seven", array(nested(7, nilBulk), nested(8, nilBulk)), api.ErrNested)
	checkMayNot(t, "eight arrays ahead of seven", array(nested(8, nilBulk), nested(7, nilBulk)), api.ErrNested)
}

// An array that holds itself is not a tree of any depth, but Check must not go down for ever.
func TestCheckOfAListThatHoldsItself(t *testing.T) {
	l := []api.Reply{nilBulk, {}}
	l[1] = array(l...)
	checkMayNot(t, "a list that holds itself", array(l...), api.ErrNested)
}

// Too many arrays in one another are told first, wherever the other fault is.
func TestCheckOfTwoFaults(t *testing.T) {
	deep := nested(9, nilBulk)
	zero := api.Reply{}
	for name, r := range map[string]api.Reply{
		"ahead":         array(zero, nested(8, nilBulk)),
		"behind":        array(nested(8, nilBulk), zero),
		"within":        nested(9, zero),
		"ahead, inside": array(array(zero), nested(8, nilBulk)),
		"a text":        {Kind: api.RArray, S: "a", L: deep.L},
		"a number":      {Kind: api.RArray, N: 1, L: deep.L},
		"a long text":   array(bulk(strings.Repeat("a", 65537)), nested(8, nilBulk)),
		"many":          array(append(make([]api.Reply, 131072), nested(8, nilBulk))...),
	} {
		checkMayNot(t, name, r, api.ErrNested)
	}
}

func TestEncodeLeavesWhatItIsGiven(t *testing.T) {
	r := array(bulk("a"), array(integer(1), nilArray))
	a, _ := reply.Encode(r)
	was := bytes.Clone(a)
	clear(a)
	if b, e := reply.Encode(r); !bytes.Equal(b, was) || e != api.OK {
		t.Errorf("Encode once more: %q, %d", b, e)
	}
	if !alike(r, array(bulk("a"), array(integer(1), nilArray))) {
		t.Error("Encode changed what it was given")
	}
}

func TestSameOfEachField(t *testing.T) {
	l := []api.Reply{
		{}, {Kind: 9}, simple(""), simple("a"), simple("b"), failure("a"), bulk("a"), bulk("A"), bulk("a\r\n"), integer(0), integer(1), integer(-1), nilBulk, nilArray, array(), array(nilBulk), array(nilArray),
		array(nilBulk, nilBulk), array(nilBulk, nilArray), array(nilArray, nilBulk), array(array()), array(array(), array()), array(array(integer(1))), array(array(integer(2))), array(array(integer(1), integer(2))),
		{Kind: api.RInt, S: "a"}, {Kind: api.RInt, S: "a", N: 1}, {Kind: api.RBulk, N: 1}, {Kind: api.RNil, L: array(nilBulk).L}, {Kind: api.RNil, L: array(nilArray).L}, {S: "a"}, {N: 1}, {L: array(nilBulk).L}, {L: make([]api.Reply, 1)},
		nested(9, nilBulk), nested(9, nilArray), nested(60000, nilBulk), nested(60000, nilArray), array(append(make([]api.Reply, 131072), nilBulk)...),
	}
	for i, a := range l {
		for k, b := range l {
			b.L = slices.Clone(b.L)
			if reply.Same(a, b) != (i == k) {
				t.Errorf("Same of number %d and number %d is %t", i, k, i != k)
			}
		}
	}
}

// P3.2

func TestDecodeOfTheDocumentsExamples(t *testing.T) {
	r, n, e := reply.Decode([]byte("$3\r\nabc\r\n"))
	if !alike(r, bulk("abc")) || n != 9 || e != api.OK {
		t.Errorf("Decode = %#v, %d, %d", r, n, e)
	}
	checkPlace(t, ":01", 2, api.ErrReply)
	checkPlace(t, "$3\r\nab", 6, api.ErrShort)
	checkPlace(t, "*1\r\n", 4, api.ErrShort)
}

func TestDecodeOfNothing(t *testing.T) {
	checkPlace(t, "", 0, api.ErrShort)
	if r, n, e := reply.Decode(nil); !isZero(r) || n != 0 || e != api.ErrShort {
		t.Errorf("Decode(nil) = %#v, %d, %d", r, n, e)
	}
}

// At each place of each sample: the bytes up to there are too short, and each byte there goes on, or is told.
func TestDecodeOfEachByteAtEachPlace(t *testing.T) {
	for s := range samples() {
		for i := range len(s) {
			checkPlace(t, s[:i], i, api.ErrShort)
			for c := range 256 {
				b := append([]byte(s[:i]), byte(c))
				checkDecode(t, b)
				checkDecode(t, append(b, s[i+1:]...))
			}
		}
	}
}

func TestDecodeOfNumbers(t *testing.T) {
	for s, place := range map[string]int{
		":\r": 1, ":-\r": 2, ":-0": 2, ":+1": 1, ":00": 2, ":01": 2, ":0-": 2, ":1-": 2, ":--": 2, ": 1": 1, ":1 ": 2, ":1.": 2, ":1e": 2, ":\n": 1, ":1\n": 2, ":1\r\r": 3, ":1\ra": 3, ":a": 1, ":\xd9\xa1": 1,
		":9223372036854775808": 19, ":-9223372036854775809": 20, ":92233720368547758070": 20, ":-92233720368547758080": 21, ":9300000000000000000": 19, ":10000000000000000000": 20,
		"$\r": 1, "$-\r": 2, "$-0": 2, "$-2": 2, "$-9": 2, "$-10": 3, "$-11": 3, "$00": 2, "$65537": 5, "$65540": 5, "$65600": 5, "$66": 99, "$70000": 5, "$100000": 6, "$655360": 6, "$9999": 99, "$99999": 5,
		"*\r": 1, "*-\r": 2, "*-2": 2, "*-10": 3, "*00": 2, "*131073": 6, "*131080": 6, "*131100": 6, "*1311": 99, "*131100\r": 6, "*132000": 6, "*140000": 6, "*200000": 6, "*99999": 99, "*1310720": 7,
	} {
		if place == 99 {
			checkPlace(t, s, len(s), api.ErrShort)
		} else {
			checkPlace(t, s, place, api.ErrReply)
			checkPlace(t, s[:place], place, api.ErrShort)
			checkPlace(t, s+"\r\n", place, api.ErrReply)
		}
		checkDecode(t, []byte(s))
		checkDecode(t, []byte("*3\r\n$-1\r\n"+s+"1\r\n"))
	}
}

// All counts and lengths near the ends of what may be.
func TestDecodeOfCountsAndLengths(t *testing.T) {
	for _, near := range []int{0, 10, 99, 1000, 6553, 6554, 65536, 65537, 13107, 13108, 131072, 131073, 655360, 1310720} {
		for n := near - 3; n <= near+3; n++ {
			for _, mark := range []string{"$", "*", ":"} {
				checkDecode(t, []byte(mark+strconv.Itoa(n)+"\r\n"))
			}
		}
	}
	checkPlace(t, "$65536\r\n", 8, api.ErrShort)
	checkPlace(t, "$65537\r\n", 5, api.ErrReply)
	checkPlace(t, "*131072\r\n", 9, api.ErrShort)
	checkPlace(t, "*131073\r\n", 6, api.ErrReply)
}

func TestDecodeOfLongTexts(t *testing.T) {
	most := strings.Repeat("ab", 32768)
	for _, mark := range []string{"+", "-"} {
		checkPlace(t, mark+most[1:], 65536, api.ErrShort)
		checkPlace(t, mark+most, 65537, api.ErrShort)
		checkPlace(t, mark+most+"\r", 65538, api.ErrShort)
		checkPlace(t, mark+most+"a", 65537, api.ErrReply)
		checkPlace(t, mark+most+"a\r\n", 65537, api.ErrReply)
		checkPlace(t, mark+most+"\n", 65537, api.ErrReply)
		checkPlace(t, mark+most+"\r\r", 65538, api.ErrReply)
		checkPlace(t, mark+most+most+"\n", 65537, api.ErrReply)
		checkPlace(t, mark+most[1:]+"\n", 65536, api.ErrReply)
		checkPlace(t, mark+"ab\n\r\n", 3, api.ErrReply)
		checkPlace(t, mark+"ab\rc\r\n", 4, api.ErrReply)
		checkPlace(t, mark+"ab\r\r\n", 4, api.ErrReply)
	}
	s := "$65536\r\n" + most
	checkPlace(t, s[:len(s)-1], len(s)-1, api.ErrShort)
	checkPlace(t, s, len(s), api.ErrShort)
	checkPlace(t, s+"\r", len(s)+1, api.ErrShort)
	checkPlace(t, s+"a\r\n", len(s), api.ErrReply)
	checkPlace(t, s+"\n", len(s), api.ErrReply)
	checkPlace(t, s+"\r\r", len(s)+1, api.ErrReply)
}

func TestDecodeOfNestedArrays(t *testing.T) {
	eight := strings.Repeat("*1\r\n", 8)
	checkPlace(t, eight, 32, api.ErrShort)
	checkPlace(t, eight+"*", 33, api.ErrShort)
	checkPlace(t, eight+"*-", 34, api.ErrShort)
	for _, c := range "0123456789\r\n+*$: " {
		checkPlace(t, eight+"*"+string(c), 33, api.ErrReply)
		checkPlace(t, eight+"*"+string(c)+"\r\n", 33, api.ErrReply)
	}
	checkPlace(t, eight+"*-2", 34, api.ErrReply)
	checkPlace(t, eight+"*-10", 35, api.ErrReply)
	checkPlace(t, "*1\r\n"+eight, 33, api.ErrReply)
	checkPlace(t, strings.Repeat("*1\r\n", 1000), 33, api.ErrReply)
	// An array that is whole counts no more.
	seven := eight[4:]
	two := "*2\r\n" + seven + "$-1\r\n"
	checkPlace(t, two, len(two), api.ErrShort)
	checkPlace(t, two+seven+"*0", len(two)+29, api.ErrReply)
	checkMay(t, array(nested(7, nilBulk), nested(7, nilArray)), two+seven+"*-1\r\n")
	checkMay(t, array(nested(6, array()), nested(6, array()), array()), "*3\r\n"+strings.Repeat(seven[4:]+"*0\r\n", 2)+"*0\r\n")
}

func TestDecodeOfGreatArraysThatDoNotCome(t *testing.T) {
	s := strings.Repeat("*131072\r\n", 8)
	checkPlace(t, s, len(s), api.ErrShort)
	checkPlace(t, s+"$-1\r\n", len(s)+5, api.ErrShort)
	checkPlace(t, s+"?", len(s), api.ErrReply)
}

func TestDecodeOfMixedBytes(t *testing.T) {
	m := newMaker(32)
	for range 40000 {
		var b []byte
		for _, r := range m.replies(1 + m.IntN(2)) {
			more, _ := reply.Encode(r)
			b = append(b, more...)
		}
		checkDecode(t, m.spoilt(b))
	}
}

func TestDecodeLeavesWhatItIsGiven(t *testing.T) {
	b := []byte("*3\r\n+ab\r\n$2\r\ncd\r\n*1\r\n-e\r\n")
	was := bytes.Clone(b)
	r, n, e := reply.Decode(b)
	if !bytes.Equal(b, was) || n != len(b) || e != api.OK {
		t.Fatalf("Decode changed what it was given: %q, %d, %d", b, n, e)
	}
	clear(b)
	want := array(simple("ab"), bulk("cd"), array(failure("e")))
	if !alike(r, want) {
		t.Errorf("what Decode told hangs on what it was given: %#v", r)
	}
	again, _, _ := reply.Decode(was)
	again.L[2].L[0] = nilBulk
	if !alike(r, want) {
		t.Error("two answers of Decode share a list")
	}
}

// P3.3

// checkAll: what is told of several replies' bytes with some behind them, which begin with no whole reply.
func checkAll(t *testing.T, l []api.Reply, behind string) {
	t.Helper()
	var b []byte
	for _, r := range l {
		more, _ := reply.Encode(r)
		b = append(b, more...)
	}
	size := len(b)
	place, want := modelPlace([]byte(behind))
	switch want {
	case api.OK:
		t.Fatalf("%s begins with a reply", short(behind))
	case api.ErrShort:
		place, want = 0, api.OK
	}
	b = append(b, behind...)
	got, n, e := reply.All(b)
	if !allAlike(got, l) || n != size+place || e != want {
		t.Errorf("All(%s) = %d replies, %d, %d; want %d, %d, %d", short(b), len(got), n, e, len(l), size+place, want)
	}
}

func TestAllTellsRepliesInOrder(t *testing.T) {
	for _, l := range [][]api.Reply{
		nil, {simple("OK")}, {nilArray, nilBulk, array()}, {bulk("\r\n"), bulk("+"), integer(-1), failure("a"), simple("")}, {array(array(nilArray)), nested(8, nilArray), bulk("a")}, slices.Repeat([]api.Reply{nilBulk}, 140000),
	} {
		for _, behind := range []string{"", "+", "$3\r\nab", "*2\r\n:1\r\n", ":", "?", ":01\r\n", "\r\n", "$3\r\nabcd", "*1\r\n*-2", "+a\n", "$65537", "*131073", strings.Repeat("*1\r\n", 9), " +OK\r\n"} {
			checkAll(t, l, behind)
		}
	}
	l, n, e := reply.All(nil)
	if len(l) != 0 || n != 0 || e != api.OK {
		t.Errorf("All(nil) = %#v, %d, %d", l, n, e)
	}
}

func TestAllOfMixedBytes(t *testing.T) {
	m := newMaker(33)
	for range 20000 {
		l := m.replies(m.IntN(5))
		more, _ := reply.Encode(m.reply(3))
		behind := m.spoilt(more[:m.IntN(len(more))])
		if _, e := modelPlace(behind); e == api.OK {
			continue
		}
		checkAll(t, l, string(behind))
	}
}

func TestAllLeavesWhatItIsGiven(t *testing.T) {
	b := []byte("*1\r\n$2\r\nab\r\n+c\r\n$")
	was := bytes.Clone(b)
	l, n, e := reply.All(b)
	if !bytes.Equal(b, was) || n != 16 || e != api.OK {
		t.Fatalf("All changed what it was given: %q, %d, %d", b, n, e)
	}
	clear(b)
	if !allAlike(l, []api.Reply{array(bulk("ab")), simple("c")}) {
		t.Errorf("what All told hangs on what it was given: %#v", l)
	}
}

// P3.4

func TestCommandTellsAnArrayOfBulks(t *testing.T) {
	most := strings.Repeat("x", 65536)
	for _, x := range []struct {
		args []string
		want string
	}{
		{[]string{"PING"}, "*1\r\n$4\r\nPING\r\n"},
		{[]string{"SET", "k", "v"}, "*3\r\n$3\r\nSET\r\n$1\r\nk\r\n$1\r\nv\r\n"},
		{[]string{""}, "*1\r\n$0\r\n\r\n"},
		{[]string{"\r\n", "$-1", "\x00\xff"}, "*3\r\n$2\r\n\r\n\r\n$3\r\n$-1\r\n$2\r\n\x00\xff\r\n"},
		{[]string{"a", most}, "*2\r\n$1\r\na\r\n$65536\r\n" + most + "\r\n"},
		{slices.Repeat([]string{"ab"}, 1024), "*1024\r\n" + strings.Repeat("$2\r\nab\r\n", 1024)},
	} {
		was := slices.Clone(x.args)
		b, e := reply.Command(x.args...)
		if string(b) != x.want || e != api.OK || !slices.Equal(x.args, was) {
			t.Errorf("Command(%d args) = %s, %d; want %s", len(x.args), short(b), e, short(x.want))
		}
		var l []api.Reply
		for _, arg := range x.args {
			l = append(l, bulk(arg))
		}
		if r, n, e := reply.Decode(b); !alike(r, array(l...)) || n != len(b) || e != api.OK {
			t.Errorf("Command(%d args), then Decode: %d bytes, %d", len(x.args), n, e)
		}
	}
}

func TestCommandRefuses(t *testing.T) {
	long := strings.Repeat("x", 65537)
	for _, x := range []struct {
		args []string
		want api.Errno
	}{
		{nil, api.ErrMany},
		{[]string{}, api.ErrMany},
		{make([]string, 1025), api.ErrMany},
		{slices.Repeat([]string{long}, 1025), api.ErrMany},
		{slices.Repeat([]string{"a"}, 131073), api.ErrMany},
		{[]string{long}, api.ErrLong},
		{[]string{long, "a"}, api.ErrLong},
		{append(slices.Repeat([]string{"a"}, 1023), long), api.ErrLong},
	} {
		if b, e := reply.Command(x.args...); len(b) != 0 || e != x.want {
			t.Errorf("Command(%d args) = %s, %d; want %d", len(x.args), short(b), e, x.want)
		}
	}
}

func TestCommandTellsNewMemory(t *testing.T) {
	a, _ := reply.Command("a")
	clear(a)
	if b, _ := reply.Command("a"); string(b) != "*1\r\n$1\r\na\r\n" {
		t.Errorf("Command tells memory that it told before: %q", b)
	}
}

// P3.5

func TestThereAndBack(t *testing.T) {
	m := newMaker(35)
	for range 20000 {
		r := m.reply(8)
		b, e := reply.Encode(r)
		if e != api.OK || reply.Check(r) != api.OK {
			t.Fatalf("Encode(%#v) = %d", r, e)
		}
		for _, behind := range []string{"", m.text(), string(b)} {
			got, n, e := reply.Decode(append(b[:len(b):len(b)], behind...))
			if !alike(got, r) || !reply.Same(got, r) || n != len(b) || e != api.OK {
				t.Fatalf("Decode(%s and %q) = %#v, %d, %d; want %#v", short(b), behind, got, n, e, r)
			}
		}
	}
}

// P3.6

func TestABeginningIsNoReply(t *testing.T) {
	m := newMaker(36)
	for range 4000 {
		b, _ := reply.Encode(m.reply(8))
		for i := range b {
			checkPlace(t, string(b[:i]), i, api.ErrShort)
		}
	}
}

func TestAllOfSeveralRepliesBytes(t *testing.T) {
	m := newMaker(37)
	for range 4000 {
		l := m.replies(m.IntN(6))
		checkAll(t, l, "")
		last, _ := reply.Encode(m.reply(8))
		checkAll(t, l, string(last[:m.IntN(len(last))]))
	}
}
