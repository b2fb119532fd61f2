package resp_test

import (
	"bytes"
	"slices"
	"strconv"
	"strings"
	"testing"

	"millpond/api"
	"millpond/resp"
)

const (
	bigCount    = "Protocol error: too big mbulk count string"
	wrongCount  = "Protocol error: invalid multibulk length"
	bigLength   = "Protocol error: too big bulk count string"
	wrongLength = "Protocol error: invalid bulk length"
	bigLine     = "Protocol error: too big inline request"
	unbalanced  = "Protocol error: unbalanced quotes in request"
)

func same(a, b [][]string) bool {
	return slices.EqualFunc(a, b, func(x, y []string) bool { return slices.Equal(x, y) })
}

// short is a text that a failing test can tell.
func short(s string) string {
	if len(s) > 90 {
		return strconv.Quote(s[:90]) + " and " + strconv.Itoa(len(s)-90) + " more"
	}
	return strconv.Quote(s)
}

func checkSplit(t *testing.T, s string, want [][]string, passed int, fault string) {
	t.Helper()
	l, n, f := resp.Split([]byte(s))
	if !same(l, want) || n != passed || f != fault {
		t.Errorf("Split(%s) = %d requests, %d, %q; want %d, %d, %q", short(s), len(l), n, f, len(want), passed, fault)
	}
}

// one is a request that is all there is.
func checkOne(t *testing.T, s string, want ...string) {
	t.Helper()
	checkSplit(t, s, [][]string{want}, len(s), "")
	checkSplit(t, s+"PING", [][]string{want}, len(s), "")
}

// checkWaits: no request, and no fault yet, but one by the bytes behind.
func checkWaits(t *testing.T, s string) {
	t.Helper()
	checkSplit(t, s, nil, 0, "")
}

func checkFault(t *testing.T, s, fault string) {
	t.Helper()
	checkSplit(t, s, nil, 0, fault)
	checkSplit(t, "PING\r\n*0\r\n"+s, [][]string{{"PING"}}, 10, fault)
	checkSplit(t, s+"\r\nPING\r\n", nil, 0, fault)
}

func checkModel(t *testing.T, b []byte) {
	t.Helper()
	m := newModel()
	m.feed(b)
	checkSplit(t, string(b), m.requests, m.passed, m.fault)
}

// mixed are numbers of 64 bits, the same at each run.
type mixed uint64

func (m *mixed) below(n int) int {
	*m = *m*6364136223846793005 + 1442695040888963407
	return int(uint64(*m>>33) % uint64(n))
}

// someBytes are requests, parts of them, and what is none, in a row.
func (m *mixed) someBytes() []byte {
	parts := []string{
		"*", "*1\r\n", "*2\r\n", "*3\r\n", "*0\r\n", "*-1\r\n", "$", "$0\r\n\r\n", "$1\r\na\r\n", "$2\r\nab\r\n", "$3\r\n\r\n*\r\n", "$-1\r\n", "$5\r\n",
		"\r\n", "\r", "\n", "\r\r\n", "0", "1", "2", "7", "-", "GET", "set a b\r\n", "get\n", " ", "\t", "\v", "\f", "x", "\\", "\"", "'", "\\x4a", "\\xZ1", "\\'", "\\\"",
		`"a b"`, `'a b'`, `"\n\r\t\b\a\x7F"`, "\x00", "\x7f", "\xff", "*1\r\n$4\r\nPING\r\n", "*2\r\n$3\r\nGET\r\n$1\r\na\r\n", "\"\"", "''", "a\"b\" c\n",
	}
	b := []byte{}
	for range m.below(12) {
		switch m.below(8) {
		case 0:
			b = append(b, byte(m.below(256)))
		case 1, 2:
			b = append(b, m.request()...)
		default:
			b = append(b, parts[m.below(len(parts))]...)
		}
	}
	if len(b) > 0 && m.below(3) == 0 {
		b[m.below(len(b))] = byte(m.below(256))
	}
	return b
}

// request is one as bytes.
func (m *mixed) request() []byte {
	b, _ := resp.Write(m.texts()...)
	return b
}

func (m *mixed) texts() []string {
	l := make([]string, 1+m.below(5))
	for i := range l {
		text := make([]byte, m.below(12))
		for k := range text {
			text[k] = byte(m.below(256))
		}
		l[i] = string(text)
	}
	return l
}

// pieces are bytes cut anywhere, into none at times.
func (m *mixed) pieces(b []byte, most int) [][]byte {
	var l [][]byte
	for len(b) > 0 {
		n := min(m.below(most+1), len(b))
		l = append(l, b[:n])
		b = b[n:]
	}
	return l
}

// P2.1

func TestSplitOfTheDocumentsExamples(t *testing.T) {
	checkSplit(t, "*2\r\n$3\r\nGET\r\n$1\r\na\r\n", [][]string{{"GET", "a"}}, 20, "")
	checkSplit(t, "set a \"b c\"\n", [][]string{{"set", "a", "b c"}}, 12, "")
	checkSplit(t, "*1\r\n+", nil, 0, "Protocol error: expected '$', got '+'")
	checkSplit(t, "*-1\r\n", nil, 5, "")
}

func TestSplitTellsRequestsInOrder(t *testing.T) {
	checkSplit(t, "", nil, 0, "")
	checkSplit(t, "*1\r\n$4\r\nPING\r\nget a\r\n*1\r\n$1\r\nx\r\n*1\r\n$1\r\n", [][]string{{"PING"}, {"get", "a"}, {"x"}}, 32, "")
	checkSplit(t, "a\nb\n*1\r\n$1\r\nc\r\nd\n*x\r\ne\n", [][]string{{"a"}, {"b"}, {"c"}, {"d"}}, 17, wrongCount)
	if l, n, f := resp.Split(nil); len(l) != 0 || n != 0 || f != "" {
		t.Errorf("Split(nil) = %q, %d, %q", l, n, f)
	}
}

func TestSplitOfCountsOfNoneAndLinesWithoutWords(t *testing.T) {
	for _, s := range []string{"*0\r\n", "*-1\r\n", "*-9223372036854775808\r\n", "\n", "\r\n", " \t\v\f\r \r\n", "*0\r*"} {
		checkSplit(t, s, nil, len(s), "")
		checkSplit(t, s+"PING\r\n"+s, [][]string{{"PING"}}, 2*len(s)+6, "")
		checkSplit(t, s+"*1\r\nx", nil, len(s), "Protocol error: expected '$', got 'x'")
	}
	checkSplit(t, "*0\r\n*", nil, 4, "")
}

func TestSplitWaitsForWhatIsNotThere(t *testing.T) {
	whole := "*2\r\n$3\r\nGET\r\n$1\r\na\r\n"
	for i := range len(whole) {
		checkWaits(t, whole[:i])
		checkSplit(t, "x\n"+whole[:i], [][]string{{"x"}}, 2, "")
	}
	line := "set a \"b c\"\r\n"
	for i := range len(line) {
		checkWaits(t, line[:i])
	}
	// What a missing byte behind 13 belongs to is not looked at yet.
	for _, s := range []string{"*1\r", "*0\r", "*x\r", "*1025\r", "*\r", "*1\r\n$1\r", "*1\r\n$x\r", "*1\r\n$-1\r", "*1\r\n$65537\r", "*1\r\n$0\r\n\r", "\"", "a\"", "\"a\"b"} {
		checkWaits(t, s)
	}
}

func TestSplitOfCounts(t *testing.T) {
	for _, s := range []string{"", "x", "1x", "+1", "01", "00", "-0", " 1", "1 ", "1.0", "1e2", "\n1", "--1", "-", "1025", "9223372036854775807", "9223372036854775808", "-9223372036854775809", strings.Repeat("0", 60)} {
		checkFault(t, "*"+s+"\r\n", wrongCount)
	}
	checkOne(t, "*1\r\n$1\r\na\r\n", "a")
	checkSplit(t, "*1024\r\n"+strings.Repeat("$1\r\na\r\n", 1024), [][]string{slices.Repeat([]string{"a"}, 1024)}, 7+1024*7, "")
	checkWaits(t, "*1024\r\n"+strings.Repeat("$1\r\na\r\n", 1023))
	checkFault(t, "*1025\r\n", wrongCount)
}

func TestSplitOfLengths(t *testing.T) {
	for _, s := range []string{"", "x", "1x", "+1", "01", "-0", " 1", "1 ", "-1", "-9223372036854775808", "65537", "9223372036854775807", "9223372036854775808"} {
		checkFault(t, "*1\r\n$"+s+"\r\n", wrongLength)
		checkFault(t, "*2\r\n$1\r\na\r\n$"+s+"\r\n", wrongLength)
	}
	text := strings.Repeat("ab", 32768)
	checkOne(t, "*2\r\n$65536\r\n"+text+"\r\n$0\r\n\r\n", text, "")
	checkWaits(t, "*1\r\n$65536\r\n"+text)
	checkFault(t, "*1\r\n$65537\r\n"+text+"c\r\n", wrongLength)
}

func TestSplitPassesOverWhateverEnds(t *testing.T) {
	for c := range 256 {
		b := string([]byte{byte(c)})
		checkOne(t, "*1\r"+b+"$2\r"+b+"\r\n"+b+b, "\r\n")
		checkOne(t, "*2\r"+b+"$0\r"+b+b+b+"$1\r"+b+b+b+b, "", b)
	}
}

func TestSplitOfAnotherByteAheadOfABulk(t *testing.T) {
	for c := range 256 {
		if c == '$' {
			continue
		}
		told := "."
		if c >= 32 && c <= 126 {
			told = string(rune(c))
		}
		fault := "Protocol error: expected '$', got '" + told + "'"
		checkFault(t, "*1\r\n"+string([]byte{byte(c)}), fault)
		checkFault(t, "*2\r\n$1\r\na\r\n"+string([]byte{byte(c)}), fault)
	}
	checkFault(t, "*1\r\n\x1f", "Protocol error: expected '$', got '.'")
	checkFault(t, "*1\r\n ", "Protocol error: expected '$', got ' '")
	checkFault(t, "*1\r\n~", "Protocol error: expected '$', got '~'")
	checkFault(t, "*1\r\n\x7f", "Protocol error: expected '$', got '.'")
}

// A count, a length or a line has its end among 65536 bytes, its first one and the end among them.
func TestSplitOfLongCountsLengthsAndLines(t *testing.T) {
	for _, x := range []struct{ ahead, mark, wrong, big string }{
		{"", "*", wrongCount, bigCount},
		{"*2\r\n$1\r\na\r\n", "$", wrongLength, bigLength},
	} {
		long := func(n int) string { return x.ahead + x.mark + strings.Repeat("1", n-1) }
		checkWaits(t, long(65535))
		checkWaits(t, long(65536))
		checkFault(t, long(65537), x.big)
		checkWaits(t, long(65535)+"\r")
		checkFault(t, long(65535)+"\r\n", x.wrong)
		checkFault(t, long(65536)+"\r", x.big)
		checkFault(t, long(65536)+"\r\n", x.big)
		checkFault(t, long(65534)+"\r\n", x.wrong)
	}
	// What stands ahead is not counted.
	checkOne(t, "*2\r\n$65536\r\n"+strings.Repeat("a", 65536)+"\r\n$1\r\na\r\n", strings.Repeat("a", 65536), "a")
	line := strings.Repeat("a", 65535)
	checkOne(t, line+"\n", line)
	checkOne(t, line[1:]+"\r\n", line[1:])
	checkWaits(t, line)
	checkWaits(t, line+"a")
	checkFault(t, line+"aa", bigLine)
	checkFault(t, line+"a\n", bigLine)
	checkFault(t, line+"\r\n", bigLine)
	checkOne(t, strings.Repeat(" ", 65534)+"a\n", "a")
	checkFault(t, strings.Repeat(" ", 65536)+"\n", bigLine)
}

func TestSplitOfLines(t *testing.T) {
	for _, x := range []struct {
		line  string
		words []string
	}{
		{"get a", []string{"get", "a"}},
		{"  get\t\va \f\r", []string{"get", "a"}},
		{"a\rb\r", []string{"a", "b"}},
		{"$3", []string{"$3"}},
		{" *1", []string{"*1"}},
		{"a*b\\n\\x41", []string{"a*b\\n\\x41"}},
		{"\x00 \x08 \x0e \x1f\x21 \x85 \xa0 \xff", []string{"\x00", "\x08", "\x0e", "\x1f\x21", "\x85", "\xa0", "\xff"}},
		{`""`, []string{""}},
		{`'' ""`, []string{"", ""}},
		{`"a b" 'c d'`, []string{"a b", "c d"}},
		{`a"b c" d'e f'`, []string{"ab c", "de f"}},
		{`"'" '"'`, []string{"'", `"`}},
		{`"a\"b\\c" 'a\'b\\c\n\x41'`, []string{`a"b\c`, `a'b\\c\n\x41`}},
		{`"\n\r\t\b\a"`, []string{"\n\r\t\b\a"}},
		{`"\N\R\f\v\0\ \'"`, []string{"NRfv0 '"}},
		{`"\x41\x7f\xFf\xaB\x00"`, []string{"A\x7f\xff\xab\x00"}},
		{`"\x411\x4g\xg4\x4"`, []string{"A1x4gxg4x4"}},
		{`"\x" "\X41" "\x/0\x:0\x@0\xG0\x` + "`" + `0\xg0"`, []string{"x", "X41", "x/0x:0x@0xG0x`0xg0"}},
		{"\"a\r\t b\"", []string{"a\r\t b"}},
		{"\"\\\r\"\r", []string{"\r"}},
		{`'\\' '\'`, nil},
		{`'\\'' x`, []string{`\'`, "x"}},
	} {
		if x.words == nil {
			checkFault(t, x.line+"\n", unbalanced)
			continue
		}
		checkOne(t, x.line+"\n", x.words...)
		checkOne(t, x.line+"\r\n", x.words...)
	}
}

func TestSplitOfAllBytesBetweenWords(t *testing.T) {
	for c := range 256 {
		b := string([]byte{byte(c)})
		switch {
		case c == '\n':
			checkSplit(t, "a"+b+"b\n", [][]string{{"a"}, {"b"}}, 4, "")
		case c == ' ' || c >= 9 && c <= 13:
			checkOne(t, "a"+b+"b\n", "a", "b")
			checkOne(t, "'a'"+b+"\"b\"\n", "a", "b")
			checkOne(t, b+"'a"+b+"b'\n", "a"+b+"b")
		case c == '"' || c == '\'':
			checkOne(t, "a"+b+"b"+b+"\n", "ab")
		default:
			checkOne(t, "a"+b+"b\n", "a"+b+"b")
			checkFault(t, "'a'"+b+"\n", unbalanced)
			checkFault(t, "\"a\""+b+"\n", unbalanced)
		}
	}
}

func TestSplitOfAllEscapes(t *testing.T) {
	for c := range 256 {
		b := string([]byte{byte(c)})
		if c == '\n' {
			continue
		}
		want := b
		if i := strings.Index("nrtba", b); i >= 0 {
			want = "\n\r\t\b\a"[i : i+1]
		}
		checkOne(t, "\"a\\"+b+"b\"\n", "a"+want+"b")
		lower, upper := strconv.FormatInt(int64(c)+256, 16)[1:], strings.ToUpper(strconv.FormatInt(int64(c)+256, 16)[1:])
		checkOne(t, "\"\\x"+lower+"\\x"+upper+"0\"\n", b+b+"0")
		checkModel(t, []byte("\"\\x"+b+"0\"\n"))
		checkModel(t, []byte("\"\\x0"+b+" \"\n"))
	}
}

func TestSplitOfQuotesThatDoNotEnd(t *testing.T) {
	for _, s := range []string{`"`, `'`, `"a`, `'a`, `a"`, `a'`, `"a\"`, `'a\'`, `"a\`, `'a\`, `"\x4`, `"\x`, `"a'`, `'a"`, `"a"b`, `'a'b`, `"a""b"`, `'a''b'`, `"a"'b'`, `""""`, `a"b"c`, `ok "a" 'b'c d`} {
		checkFault(t, s+"\n", unbalanced)
		checkFault(t, s+"\r\n", unbalanced)
	}
	checkFault(t, "\"a\n\"\n", unbalanced)
}

func TestSplitOfManyWords(t *testing.T) {
	l := slices.Repeat([]string{"a"}, 1024)
	checkOne(t, strings.Join(l, " ")+"\n", l...)
	checkOne(t, strings.Repeat(" 'a'", 1024)+"\r\n", l...)
	checkFault(t, strings.Join(l, " ")+" a\n", wrongCount)
	checkFault(t, strings.Repeat("a ", 1025)+"\n", wrongCount)
	checkFault(t, strings.Repeat("a ", 32767)+"\n", wrongCount)
	// A line with two faults: its words are told apart first.
	checkFault(t, strings.Repeat("a ", 2000)+"'\n", unbalanced)
}

func TestSplitAgainstTheModel(t *testing.T) {
	m := mixed(21)
	for range 60000 {
		checkModel(t, m.someBytes())
	}
}

func TestSplitLeavesWhatItIsGiven(t *testing.T) {
	b := []byte("set a \"b\\x41\"\r\n*2\r\n$1\r\na\r\n$1\r\nb\r\n*1\r\n$9\r\nabc")
	was := bytes.Clone(b)
	l, n, f := resp.Split(b)
	if !bytes.Equal(b, was) || n != 33 || f != "" {
		t.Fatalf("Split changed what it was given: %q, %d, %q", b, n, f)
	}
	clear(b)
	if !same(l, [][]string{{"set", "a", "bA"}, {"a", "b"}}) {
		t.Errorf("what Split told hangs on what it was given: %q", l)
	}
}

// P2.2

func TestWriteTellsARequestsBytes(t *testing.T) {
	for _, x := range []struct {
		l    []string
		want string
	}{
		{[]string{"GET", "a"}, "*2\r\n$3\r\nGET\r\n$1\r\na\r\n"},
		{[]string{""}, "*1\r\n$0\r\n\r\n"},
		{[]string{"\r\n", "$", "\x00\xff"}, "*3\r\n$2\r\n\r\n\r\n$1\r\n$\r\n$2\r\n\x00\xff\r\n"},
		{[]string{strings.Repeat("x", 65536)}, "*1\r\n$65536\r\n" + strings.Repeat("x", 65536) + "\r\n"},
		{slices.Repeat([]string{"ab"}, 1024), "*1024\r\n" + strings.Repeat("$2\r\nab\r\n", 1024)},
	} {
		if b, e := resp.Write(x.l...); string(b) != x.want || e != api.OK {
			t.Errorf("Write(%d texts) = %s, %d", len(x.l), short(string(b)), e)
		}
	}
}

func TestWriteRefuses(t *testing.T) {
	long := strings.Repeat("x", 65537)
	for _, x := range []struct {
		l    []string
		want api.Errno
	}{
		{nil, api.ErrArg},
		{[]string{}, api.ErrArg},
		{make([]string, 1025), api.ErrMany},
		{slices.Repeat([]string{long}, 1025), api.ErrMany},
		{[]string{long}, api.ErrLong},
		{append(slices.Repeat([]string{"a"}, 1023), long), api.ErrLong},
	} {
		if b, e := resp.Write(x.l...); len(b) != 0 || e != x.want {
			t.Errorf("Write(%d texts) = %s, %d; want %d", len(x.l), short(string(b)), e, x.want)
		}
	}
}

func TestWriteTellsNewMemory(t *testing.T) {
	a, _ := resp.Write("a")
	clear(a)
	if b, _ := resp.Write("a"); string(b) != "*1\r\n$1\r\na\r\n" {
		t.Errorf("Write tells memory that it told before: %q", b)
	}
}

// P2.3

func checkFeed(t *testing.T, r *resp.Reader, s string, want [][]string, fault string, e api.Errno, kept int) {
	t.Helper()
	l, f, got := r.Feed([]byte(s))
	if !same(l, want) || f != fault || got != e {
		t.Errorf("Feed(%s) = %q, %q, %d; want %q, %q, %d", short(s), l, f, got, want, fault, e)
	}
	if n := r.Left(); n != kept {
		t.Errorf("behind Feed(%s) Left = %d; want %d", short(s), n, kept)
	}
}

func TestFeedOfReadersThatAreNone(t *testing.T) {
	var none *resp.Reader
	checkFeed(t, none, "PING\n", nil, "", api.ErrNil, 0)
	checkFeed(t, none, "", nil, "", api.ErrNil, 0)
	checkFeed(t, &resp.Reader{}, "PING\n", nil, "", api.ErrNil, 0)
	made := resp.New()
	checkFeed(t, made, "PI", nil, "", api.OK, 2)
	copied := *made
	checkFeed(t, &copied, "NG\n", nil, "", api.ErrNil, 0)
	checkFeed(t, made, "NG\n", [][]string{{"PING"}}, "", api.OK, 0)
}

func TestFeedKeepsWhatWasNotPassedOver(t *testing.T) {
	r := resp.New()
	if r.Left() != 0 {
		t.Error("a new reader keeps something")
	}
	checkFeed(t, r, "", nil, "", api.OK, 0)
	checkFeed(t, r, "*2\r\n$3\r\nGE", nil, "", api.OK, 10)
	checkFeed(t, r, "", nil, "", api.OK, 10)
	checkFeed(t, r, "T\r\n$1\r\na\r", nil, "", api.OK, 19)
	checkFeed(t, r, "\n", [][]string{{"GET", "a"}}, "", api.OK, 0)
	checkFeed(t, r, "a\nb\n*0\r\n\r\nc", [][]string{{"a"}, {"b"}}, "", api.OK, 1)
	checkFeed(t, r, "d\n*1", [][]string{{"cd"}}, "", api.OK, 2)
	checkFeed(t, r, "\r", nil, "", api.OK, 3)
	checkFeed(t, r, "?$1", nil, "", api.OK, 6)
	checkFeed(t, r, "\r\n*\r\nx", [][]string{{"*"}}, "", api.OK, 1)
}

func TestFeedBehindAFault(t *testing.T) {
	r := resp.New()
	checkFeed(t, r, "a\nb", [][]string{{"a"}}, "", api.OK, 1)
	checkFeed(t, r, "\n*1\r\nx\r\nc\n", [][]string{{"b"}}, "Protocol error: expected '$', got 'x'", api.OK, 0)
	for _, s := range []string{"", "c\n", "*x\r\n"} {
		checkFeed(t, r, s, nil, "", api.ErrDone, 0)
	}
	checkFeed(t, resp.New(), "c\n", [][]string{{"c"}}, "", api.OK, 0)
}

func TestFeedKeepsNothingOfWhatItIsGiven(t *testing.T) {
	r := resp.New()
	b := []byte("*1\r\n$4\r\nab")
	r.Feed(b)
	copy(b, "**********")
	checkFeed(t, r, "cd\r\n", [][]string{{"abcd"}}, "", api.OK, 0)
	b = []byte("one\ntw")
	l, _, _ := r.Feed(b)
	clear(b)
	checkFeed(t, r, "o\n", [][]string{{"two"}}, "", api.OK, 0)
	if !same(l, [][]string{{"one"}}) {
		t.Errorf("what Feed told has changed: %q", l)
	}
}

func TestFeedOfReadersApart(t *testing.T) {
	a, b := resp.New(), resp.New()
	checkFeed(t, a, "ge", nil, "", api.OK, 2)
	checkFeed(t, b, "se", nil, "", api.OK, 2)
	checkFeed(t, b, "t\n'\n", [][]string{{"set"}}, unbalanced, api.OK, 0)
	checkFeed(t, a, "t\n", [][]string{{"get"}}, "", api.OK, 0)
}

// P2.4

// feedAll is what Feeds of some pieces tell in all; what is kept is checked at each.
func feedAll(t *testing.T, pieces [][]byte) ([][]string, string) {
	t.Helper()
	r, m := resp.New(), newModel()
	var l [][]string
	fault := ""
	for _, piece := range pieces {
		m.feed(piece)
		more, f, e := r.Feed(piece)
		if done := fault != ""; done != (e == api.ErrDone) || !done && e != api.OK {
			t.Fatalf("Feed(%q) behind the fault %q: %d", piece, fault, e)
		}
		l = append(l, more...)
		fault += f
		kept := m.fed - m.passed
		if fault != "" {
			kept = 0
		}
		if !same(l, m.requests) || fault != m.fault || r.Left() != kept {
			t.Fatalf("up to Feed(%q): %q, %q, %d kept; want %q, %q, %d", piece, l, fault, r.Left(), m.requests, m.fault, kept)
		}
	}
	return l, fault
}

func checkPieces(t *testing.T, b []byte, pieces [][]byte) {
	t.Helper()
	l, f := feedAll(t, pieces)
	whole, fault, e := resp.New().Feed(b)
	if !same(l, whole) || f != fault || e != api.OK {
		t.Fatalf("%q in pieces tells %q, %q; whole %q, %q, %d", b, l, f, whole, fault, e)
	}
}

// singles are bytes one by one.
func singles(b []byte) [][]byte { return slices.Collect(slices.Chunk(b, 1)) }

func TestPiecesTellWhatTheWholeTells(t *testing.T) {
	for _, s := range []string{
		"*2\r\n$3\r\nGET\r\n$1\r\na\r\nset a \"b c\"\r\n*-1\r\n*0\r\n\r\n*1\r\n$0\r\n\r\nx\n",
		"a\n*1\r\n$1\r\nb\r\n*1\r\n+c\n", "a\n*1025\r\nb\n", "a\n*2\r\n$1\r\na\r\n$-1\r\nb\n", "\"a\\x41\" 'b\\''\r\n\"a\"b\r\nc\r\n",
	} {
		b := []byte(s)
		checkPieces(t, b, singles(b))
		for i := range len(b) + 1 {
			for k := i; k <= len(b); k++ {
				checkPieces(t, b, [][]byte{b[:i], b[i:k], b[k:]})
			}
		}
	}
}

func TestPiecesOfMixedBytes(t *testing.T) {
	m := mixed(24)
	for i := range 12000 {
		b := m.someBytes()
		checkPieces(t, b, m.pieces(b, 1+i%9))
		checkPieces(t, b, singles(b))
	}
}

func TestPiecesOfLongOnes(t *testing.T) {
	text := strings.Repeat("ab", 32768)
	m := mixed(25)
	for _, s := range []string{
		"x\n*2\r\n$65536\r\n" + text + "\r\n$1\r\na\r\nx\n", "*1\r\n$65537\r\n" + text, text[:65535] + "\nx\n", text + "\nx\n", text + "a", "*" + text, "*" + text[:65534] + "\r\n", "*1\r\n$" + text + "\r\n",
		"*1024\r\n" + strings.Repeat("$1\r\na\r\n", 1024) + "x\n", "*1025\r\n" + strings.Repeat("$1\r\na\r\n", 1025), strings.Repeat("a ", 1024) + "\n" + strings.Repeat("b ", 1025) + "\n",
	} {
		b := []byte(s)
		checkPieces(t, b, m.pieces(b, 3))
		checkPieces(t, b, m.pieces(b, 5000))
		for _, i := range []int{65535, 65536, 65537} {
			if i < len(b) {
				checkPieces(t, b, [][]byte{b[:i], b[i : i+1], b[i+1:]})
			}
		}
	}
}

// A great request in many pieces takes no time that grows with their square.
func TestPiecesOfAGreatRequest(t *testing.T) {
	l := slices.Repeat([]string{strings.Repeat("x", 20000)}, 1024)
	b, _ := resp.Write(l...)
	r := resp.New()
	for piece := range slices.Chunk(b[:len(b)-1], 2000) {
		if more, f, e := r.Feed(piece); len(more) != 0 || f != "" || e != api.OK {
			t.Fatalf("Feed = %d requests, %q, %d", len(more), f, e)
		}
	}
	checkFeed(t, r, "\n", [][]string{l}, "", api.OK, 0)
}

// P2.5

func TestThereAndBack(t *testing.T) {
	m := mixed(26)
	check := func(l []string, behind []byte) {
		t.Helper()
		b, e := resp.Write(l...)
		size := len(b)
		got, n, _ := resp.Split(append(b, behind...))
		if e != api.OK || len(got) == 0 || !slices.Equal(got[0], l) || n < size {
			t.Fatalf("Write(%.90q), then Split: %d requests, %d bytes of %d", l, len(got), n, size)
		}
	}
	for range 4000 {
		check(m.texts(), m.someBytes())
		check(m.texts(), nil)
	}
	check(slices.Repeat([]string{strings.Repeat("\n", 65536)}, 1024), []byte("x"))
	check(make([]string, 1024), []byte("*x\r\n"))
}

// P2.6

func TestABeginningTellsABeginning(t *testing.T) {
	m := mixed(27)
	for range 3000 {
		b := m.someBytes()
		all, passed, fault := resp.Split(b)
		for i := range len(b) {
			l, n, f := resp.Split(b[:i])
			if len(l) > len(all) || !same(l, all[:len(l)]) || n > passed {
				t.Fatalf("of %q the first %d bytes tell %q, %d; all %q, %d", b, i, l, n, all, passed)
			}
			if f != "" && (f != fault || n != passed) {
				t.Fatalf("of %q the first %d bytes tell the fault %q; all %q", b, i, f, fault)
			}
		}
	}
}
