package image_test

import (
	"hash/fnv"
	"math"
	"slices"
	"strconv"
	"strings"
	"testing"

	"millpond/api"
	"millpond/image"
	"millpond/table"
)

// The example

func TestTheExample(t *testing.T) {
	l := row(stay("k", zset(sc("b", -1), sc("a", 3))))
	checkText(t, l, "zset 6b - 62:-1 61:3\n")
	got, e := image.Canon(stay("k", zset(sc("a", 3), sc("b", -1))))
	checkRow(t, "Canon", "a 3, b -1", got, e, l, api.OK)
}

// P9.4: Text

func TestText(t *testing.T) {
	for _, c := range []struct {
		l    []api.Entry
		want string
	}{
		{nil, ""},
		{[]api.Entry{}, ""},
		{row(stay("", str(""))), "string . - .\n"},
		{row(stay("k", str("v"))), "string 6b - 76\n"},
		{row(stay("", str("v"))), "string . - 76\n"},
		{row(stay("k", str(""))), "string 6b - .\n"},
		{row(stay("k", str(".")), stay("l", str("-"))), "string 6b - 2e\nstring 6c - 2d\n"},
		{row(stay("\x00\x01\x0f\x10", str("\x7f\x80\x9f\xa0\xef\xf0\xff"))), "string 00010f10 - 7f809fa0eff0ff\n"},
		{row(stay("\n", str(" \n "))), "string 0a - 200a20\n"},
		{row(stay("é", str("\xc3"))), "string c3a9 - c3\n"},
		{row(ends("k", str("v"), 0)), "string 6b 0 76\n"},
		{row(ends("k", str("v"), 1)), "string 6b 1 76\n"},
		{row(ends("k", str("v"), 10)), "string 6b 10 76\n"},
		{row(ends("k", str("v"), api.MaxTime)), "string 6b 1099511627776 76\n"},
		{row(stay("k", list(""))), "list 6b - .\n"},
		{row(stay("k", list("a"))), "list 6b - 61\n"},
		{row(stay("k", list("b", "", "a", "b", "", ""))), "list 6b - 62 . 61 62 . .\n"},
		{row(stay("k", set(""))), "set 6b - .\n"},
		{row(ends("k", set("", "\x00", "a", "a\x00", "\xfe"), 5)), "set 6b 5 . 00 61 6100 fe\n"},
		{row(stay("k", zset(sc("", 0)))), "zset 6b - .:0\n"},
		{row(ends("k", zset(sc("low", math.MinInt64), sc("", -10), sc("a", 0), sc("b", 0), sc("\xff", 7), sc("high", math.MaxInt64)), 3)), "zset 6b 3 6c6f77:-9223372036854775808 .:-10 61:0 62:0 ff:7 68696768:9223372036854775807\n"},
		{row(stay("k", hash(fi("", "")))), "hash 6b - .=.\n"},
		{row(stay("k", hash(fi("", "v"), fi("=", ":"), fi("f", ""), fi("g", "\xff\x00")))), "hash 6b - .=76 3d=3a 66=. 67=ff00\n"},
		{row(stay("", list("a", "b")), ends("a", set("x"), 1), stay("aa", zset(sc("m", -1))), ends("b", hash(fi("f", "v")), 20), stay("c", str("s"))), "list . - 61 62\nset 61 1 78\nzset 6161 - 6d:-1\nhash 62 20 66=76\nstring 63 - 73\n"},
	} {
		checkText(t, c.l, c.want)
	}
	var all []byte
	for c := range 256 {
		all = append(all, byte(c))
	}
	l := row(stay(string(all), str(string(all))))
	checkText(t, l, modelText(l))
}

func TestTextAndDigestOfNoImages(t *testing.T) {
	a, b := stay("a", str("")), stay("b", str(""))
	for _, c := range []struct {
		name string
		l    []api.Entry
		want api.Errno
	}{
		{"keys that fall", row(b, a), api.ErrImage},
		{"a key twice", row(a, a), api.ErrImage},
		{"an entry that is nothing", row(entry{}), api.ErrImage},
		{"a set that falls", row(a, stay("b", set("b", "a"))), api.ErrImage},
		{"a time of -2", row(a, ends("b", str(""), -2)), api.ErrImage},
		{"more entries than may be", greatImage(api.MaxKeys + 1), api.ErrMany},
		{"more entries than may be, that may not be", make([]api.Entry, api.MaxKeys+1), api.ErrMany},
		{"too long a text of no image", append(long(0), a), api.ErrImage},
		{"too long a text of an entry that may not be", row(ends("a", long(9)[0].V, -2)), api.ErrImage},
		{"too long a text of too many", slices.Concat(long(0), make([]api.Entry, api.MaxKeys)), api.ErrMany},
	} {
		if s, e := image.Text(c.l); s != "" || e != c.want {
			t.Errorf("Text of %s = %.200q, %v; want %v", c.name, s, e, c.want)
		}
		if n, e := image.Digest(c.l); n != 0 || e != c.want {
			t.Errorf("Digest of %s = %d, %v; want %v", c.name, n, e, c.want)
		}
	}
}

// bulky are 511 texts of as many bytes as may be, and one of n bytes behind them, rising.
func bulky(n int) []string {
	var l []string
	for i := range 511 {
		l = append(l, strconv.Itoa(1000+i)+strings.Repeat("\xa5", api.MaxBulk-4))
	}
	return append(l, strings.Repeat("z", n))
}

// bulkyZset and bulkyHash have these as members, as fields.
func bulkyZset(n int) api.Value {
	var l []api.Scored
	for i, m := range bulky(n) {
		l = append(l, sc(m, int64(i-300)))
	}
	return zset(l...)
}

func bulkyHash(n int) api.Value {
	var l []api.Field
	for i, f := range bulky(n) {
		l = append(l, fi(f, strings.Repeat("v", i%3)))
	}
	return hash(l...)
}

// long is an image of one entry whose text has 2^26 bytes and n more, n at most 9.
func long(n int) []api.Entry {
	e := stay("k", list(bulky(65275)...)) // 511 times 131073 bytes, with the blanks ahead, 130551, and 10 for "list 6b -" and the end
	if n > 0 {                            // a time of n + 1 digits
		e.At, _ = strconv.Atoi("1" + strings.Repeat("0", n))
	}
	return row(e)
}

func TestTheLongestText(t *testing.T) {
	l := long(0)
	s, e := image.Text(l)
	if len(s) != api.MaxStore || s != modelText(l) || e != api.OK {
		t.Fatalf("Text of 2^26 bytes has %d, %v", len(s), e)
	}
	if n, e := image.Digest(l); n != table.Hash(0, s) || e != api.OK {
		t.Errorf("Digest of 2^26 bytes = %d, %v", n, e)
	}
	got, n, e := image.Read(s)
	if !same(got, l) || n != 0 || e != api.OK {
		t.Errorf("Read of 2^26 bytes = %d entries, %d, %v", len(got), n, e)
	}
	for _, wrong := range []string{s + "\n", "\n" + s, strings.Repeat("\n", api.MaxStore+1)} {
		if got, n, e := image.Read(wrong); got != nil || n != 0 || e != api.ErrLong {
			t.Errorf("Read of 2^26 bytes and one more = %d entries, %d, %v; want ErrLong", len(got), n, e)
		}
	}
	if got, n, e := image.Read(s[1:] + "\n"); got != nil || n != 0 || e != api.ErrText {
		t.Errorf("Read of 2^26 bytes that are no text = %d entries, %d, %v", len(got), n, e)
	}
	if got, n, e := image.Read(strings.Repeat("\n", api.MaxStore)); got != nil || n != 0 || e != api.ErrText {
		t.Errorf("Read of 2^26 ends of lines = %d entries, %d, %v", len(got), n, e)
	}
}

// Whatever makes the text too long, and by however little.
func TestTextThatIsTooLong(t *testing.T) {
	item := strings.Repeat("\xa5", 65000)
	with := func(more ...string) []api.Entry {
		return row(stay("k", list(append(bulky(65275), more...)...)))
	}
	for name, l := range map[string][]api.Entry{
		"a byte of a time": long(1),
		"bytes of a time":  long(9),
		"a byte of a key":  row(stay("ka", list(bulky(65275)...))),
		"an empty item":    with(""),
		"an item":          with(item),
		"items":            with(slices.Repeat([]string{item}, 1000)...),
		"an entry":         append(long(0), stay("l", str(""))),
		"an entry ahead":   append(row(stay("", str(""))), long(0)...),
		"a great entry":    append(long(0), stay("l", str(item))),
		"many great ones":  append(long(0), stay("l", with(item)[0].V), stay("m", bulkyHash(5))),
	} {
		if s, e := image.Text(l); s != "" || e != api.ErrLong {
			t.Errorf("Text with %s too many = %d bytes, %v; want ErrLong", name, len(s), e)
		}
		if n, e := image.Digest(l); n != 0 || e != api.ErrLong {
			t.Errorf("Digest with %s too many = %d, %v; want ErrLong", name, n, e)
		}
	}
}

// Of each kind a text of 2^26 bytes, and the same with one byte more.
func TestTheLongestTextOfEachKind(t *testing.T) {
	for kind, value := range map[string]func(n int) api.Value{
		"list": func(n int) api.Value { return list(bulky(n)...) },
		"set":  func(n int) api.Value { return set(bulky(n)...) },
		"zset": bulkyZset,
		"hash": bulkyHash,
	} {
		spare := api.MaxStore - len(modelLine(stay("k", value(1))))
		e := ends("k", value(1+spare/2), 9) // a time of one digit is as long as none
		if spare%2 == 1 {
			e.At = 10
		}
		s, errno := image.Text(row(e))
		if len(s) != api.MaxStore || errno != api.OK {
			t.Errorf("Text of a %s has %d bytes, %v", kind, len(s), errno)
		}
		if got, n, errno := image.Read(s); !same(got, row(e)) || n != 0 || errno != api.OK {
			t.Errorf("Read of the text of a %s = %d entries, %d, %v", kind, len(got), n, errno)
		}
		e.At *= 10
		if s, errno := image.Text(row(e)); s != "" || errno != api.ErrLong {
			t.Errorf("Text of a %s, a byte longer, has %d bytes, %v", kind, len(s), errno)
		}
	}
}

// P9.4: Digest

func TestDigest(t *testing.T) {
	if n, e := image.Digest(nil); n != 14695981039346656037 || e != api.OK {
		t.Errorf("Digest of no entries = %d, %v", n, e)
	}
	m := newMaker(3)
	seen := map[uint64]string{}
	for range 3000 {
		l := m.image(t, 8)
		text := modelText(l)
		n, e := image.Digest(l)
		h := fnv.New64a()
		h.Write([]byte(text))
		if n != h.Sum64() || n != table.Hash(0, text) || e != api.OK {
			t.Fatalf("Digest of %v = %d, %v; want %d", l, n, e, h.Sum64())
		}
		if other, there := seen[n]; there && other != text {
			t.Fatalf("%q and %q have one digest", other, text)
		}
		seen[n] = text
	}
}

// P9.4: Read

// The number of the line, at each of three places, of lines that no image's text has.
func TestReadOfWrongLines(t *testing.T) {
	good := []string{"string . - 61", "list 61 0 62 . 62", "zset 62 5 .:-1 61:-1 61ff:0"}
	wrong := []string{
		"", " ", "\r", "string", "string ", "string K", "string KEY", "string KEY ", "string KEY -", "string KEY - ",
		"string KEY - 61 ", "string KEY - 61 62", "string KEY - . .", "string KEY  - 61", "string  KEY - 61", " string KEY - 61", "string KEY - 61\r", "string\tKEY - 61", "string KEY -\t61", "string KEY - 61\x00",
		"String KEY - 61", "STRING KEY - 61", "strin KEY - 61", "strings KEY - 61", "text KEY - 61", "KEY - 61", "1 KEY - 61", "string KEY 61", "string - 61", "stringKEY - 61",
		"string KEY - 6", "string KEY - 616", "string KEY - 6A", "string KEY - A6", "string KEY - 6g", "string KEY - g6", "string KEY - 6.", "string KEY - .6", "string KEY - ..", "string KEY - 0x61", "string KEY - +6", "string KEY - -1", "string KEY - 6:", "string KEY - 6/", "string KEY - 6@", "string KEY - 6`", "string KEY - 6\x80", "string KEY - \x006",
		"string KEY6 - 61", "string KEY. - 61", "string KEYg0 - 61", "string KEYA0 - 61", "string KEYa - 61",
		"string KEY . 61", "string KEY -- 61", "string KEY -1 61", "string KEY -0 61", "string KEY +1 61", "string KEY 00 61", "string KEY 01 61", "string KEY 0x1 61", "string KEY 1.0 61", "string KEY 1e3 61", "string KEY 1_0 61", "string KEY 1- 61", "string KEY a 61",
		"string KEY 1099511627777 61", "string KEY 9223372036854775807 61", "string KEY 9223372036854775808 61", "string KEY 18446744073709551616 61", "string KEY -9223372036854775808 61", "string KEY " + strings.Repeat("9", 300) + " 61",
		"list KEY -", "list KEY - ", "list KEY - 61 ", "list KEY -  61", "list KEY - 61  62", "list KEY - 61 6", "list KEY - 6 61", "list KEY - 61 62 A0", "list KEY - 61:1", "list KEY - 61=62", "list KEY - - 61",
		"set KEY -", "set KEY - ", "set KEY - 62 61", "set KEY - 61 61", "set KEY - . .", "set KEY - 61 .", "set KEY - 61 63 62", "set KEY - 61 62 61", "set KEY - 6161 61", "set KEY - 61 6", "set KEY - ff 80",
		"zset KEY -", "zset KEY - ", "zset KEY - 61", "zset KEY - 61:", "zset KEY - :1", "zset KEY - :", "zset KEY - 61:1:1", "zset KEY - 61::1", "zset KEY - 61=1", "zset KEY - 61:1 ", "zset KEY - 61:1  62:1", "zset KEY - 61: 1", "zset KEY - 61 :1",
		"zset KEY - 61:+1", "zset KEY - 61:01", "zset KEY - 61:-0", "zset KEY - 61:00", "zset KEY - 61:-01", "zset KEY - 61:--1", "zset KEY - 61:-", "zset KEY - 61:1.", "zset KEY - 61:1e1", "zset KEY - 61:0x1", "zset KEY - 61:a", "zset KEY - 61:.", "zset KEY - 61:inf",
		"zset KEY - 61:9223372036854775808", "zset KEY - 61:-9223372036854775809", "zset KEY - 61:18446744073709551617", "zset KEY - 6:1", "zset KEY - 6A:1", "zset KEY - ..:1", "zset KEY - 61:1 6:2",
		"zset KEY - 62:1 61:1", "zset KEY - 61:2 62:1", "zset KEY - 61:0 62:-1", "zset KEY - 61:1 61:1", "zset KEY - 61:1 61:2", "zset KEY - 61:1 62:2 61:3", "zset KEY - .:1 61:2 .:3", "zset KEY - 61:-1 62:-2",
		"hash KEY -", "hash KEY - ", "hash KEY - 61", "hash KEY - 61=", "hash KEY - =61", "hash KEY - =", "hash KEY - 61=62=63", "hash KEY - 61==62", "hash KEY - 61:62", "hash KEY - 61=62 ", "hash KEY - 61=62  63=64", "hash KEY - 61= 62", "hash KEY - 61 =62",
		"hash KEY - 6=62", "hash KEY - 61=6", "hash KEY - 6A=62", "hash KEY - 61=6A", "hash KEY - ..=62", "hash KEY - 61=..", "hash KEY - 61=62 6=62", "hash KEY - 61=62 62=6",
		"hash KEY - 62=62 61=62", "hash KEY - 61=62 61=62", "hash KEY - 61=62 61=63", "hash KEY - 61=62 62=62 61=62", "hash KEY - 61=62 .=62", "hash KEY - .=. .=.",
	}
	for i, key := range []string{"00", "6100", "6200"} { // it would rise
		for _, w := range wrong {
			lines := slices.Clone(good)
			lines = slices.Insert(lines, i+1, strings.ReplaceAll(w, "KEY", key))
			text := strings.Join(lines, "\n") + "\n"
			checkWrong(t, text, i+1)
			if w != "" || i < 2 {
				checkWrong(t, strings.TrimSuffix(text, "\n"), i+1)
			}
			checkWrong(t, strings.Join(lines[i+1:], "\n")+"\n", 0)
			checkWrong(t, strings.Join(slices.Concat(lines[:i+2], lines[i+1:]), "\n")+"\n", i+1) // twice: the first one
		}
	}
	text := strings.Join(good, "\n") + "\n"
	l := row(stay("", str("a")), ends("a", list("b", "", "b"), 0), ends("b", zset(sc("", -1), sc("a", -1), sc("a\xff", 0)), 5))
	checkText(t, l, text)
}

// Keys must rise from line to line.
func TestReadOfKeysThatDoNotRise(t *testing.T) {
	line := func(key string) string { return "string " + key + " - .\n" }
	for _, c := range []struct {
		keys  []string
		wrong int
	}{
		{[]string{".", "."}, 1}, {[]string{"61", "."}, 1}, {[]string{"61", "61"}, 1}, {[]string{"62", "61"}, 1}, {[]string{"61", "6100", "61"}, 2}, {[]string{"61", "62", "61"}, 2}, {[]string{".", "61", "62", "."}, 3},
		{[]string{"6161", "61"}, 1}, {[]string{"ff", "80"}, 1}, {[]string{"80", "7f"}, 1}, {[]string{"61", "63", "62", "64"}, 2}, {[]string{"61", "63", "63", "62"}, 2}, {[]string{"63", "62", "61"}, 1},
	} {
		var text strings.Builder
		for _, key := range c.keys {
			text.WriteString(line(key))
		}
		checkWrong(t, text.String(), c.wrong)
		checkRead(t, text.String())
	}
	checkRead(t, line(".")+line("00")+line("61")+line("6100")+line("62")+line("7f")+line("80")+line("ff")+line("ffff"))
}

// Only the end of the last line is missing: its number is told, whatever stands ahead of where it breaks off.
func TestReadOfTheLastLine(t *testing.T) {
	l := row(stay("", str("xyz")), ends("a", list("b", "", "b"), 0), stay("b", set("p", "q")), ends("c", zset(sc("", -1), sc("a", 10)), 5), stay("d", hash(fi("f", "v"), fi("g", ""))))
	text := modelText(l)
	ends := 0
	for n := 1; n < len(text); n++ {
		if text[n-1] == '\n' {
			ends++
			got, at, e := image.Read(text[:n])
			checkRow(t, "Read", text[:n], got, e, l[:ends], api.OK)
			if at != 0 {
				t.Fatalf("Read of %q tells %d", text[:n], at)
			}
			continue
		}
		checkWrong(t, text[:n], ends)
	}
	checkText(t, l, text)
}

// Each word of a line, each of some at each place, with and without its end.
func TestReadOfAllWords(t *testing.T) {
	items := []string{"", ".", "61", "62", "6100", "6", "6A", "..", "61:1", "61:-1", "62:1", "62:0", "61:01", "61:-0", ".:0", "61:", ":1", "61:9223372036854775808", "61=62", "61=.", ".=61", "62=", "=62", "62=6", "61=62=63", "-", "0"}
	for _, kind := range []string{"string", "list", "set", "zset", "hash", "", "String", "sets", "."} {
		for _, key := range []string{".", "61", "", "6", "6F", "-"} {
			for _, at := range []string{"-", "0", "7", "1099511627776", "1099511627777", "07", "-1", "", ".", "+1"} {
				checkRead(t, strings.Join([]string{kind, key, at}, " ")+"\n")
				for _, words := range rows(2, items...) {
					line := strings.Join(append([]string{kind, key, at}, words...), " ")
					checkRead(t, line+"\n")
					if len(words) < 2 {
						checkRead(t, line)
					}
				}
			}
		}
	}
	for _, kind := range []string{"list", "set", "zset", "hash"} {
		for _, words := range rows(4, ".", "61", "62", "61:1", "62:1", "61:2", ".:0", "61=62", "62=62", ".=.") {
			checkRead(t, strings.Join(append([]string{kind, "6b", "-"}, words...), " ")+"\n")
		}
	}
}

// Each byte of a text changed, put in or taken out.
func TestReadOfTextsWithOneByteChanged(t *testing.T) {
	text := "string . - 61\nlist 61 0 62 . 62ff\nset 6100 10 . 00 7a\nzset 62 5 61:-9 .:0 62:9223372036854775806\nhash 62ff - .=61 61=.\n"
	checkRead(t, text)
	got, _, e := image.Read(text)
	if len(got) != 5 || e != api.OK {
		t.Fatalf("Read of %q = %v, %v", text, got, e)
	}
	for i := range len(text) + 1 {
		for c := range 256 {
			b := string([]byte{byte(c)})
			checkRead(t, text[:i]+b+text[i:])
			if i < len(text) {
				checkRead(t, text[:i]+b+text[i+1:])
			}
		}
		for j := i; j <= len(text); j++ {
			checkRead(t, text[:i]+text[j:])
		}
		checkRead(t, text[:i])
		checkRead(t, text[i:])
		checkRead(t, text[i:]+text[:i])
	}
}

// Lines in any order, some twice, some left out.
func TestReadOfLinesInAnyOrder(t *testing.T) {
	lines := []string{"string . - .\n", "list 61 0 62 .\n", "set 6161 - 61\n", "zset 62 5 61:-1\n", "\n", "hash 63 - 61=6\n"}
	for _, l := range rows(5, lines...) {
		checkRead(t, strings.Join(l, ""))
	}
}

func TestReadOfLongWords(t *testing.T) {
	hex := strings.Repeat("78", api.MaxBulk)
	for _, c := range []struct {
		line string
		want api.Entry
	}{
		{"string KEY - .\n", stay(most, str(""))},
		{"string . - KEY\n", stay("", str(most))},
		{"list . - . KEY .\n", stay("", list("", most, ""))},
		{"set . - . KEY 79\n", stay("", set("", most, "y"))},
		{"zset . - 61:0 KEY:1 61ff:2\n", stay("", zset(sc("a", 0), sc(most, 1), sc("a\xff", 2)))},
		{"hash . - KEY=61\n", stay("", hash(fi(most, "a")))},
		{"hash . - 61=KEY\n", stay("", hash(fi("a", most)))},
		{"hash . - 61=. KEY=KEY 79=62\n", stay("", hash(fi("a", ""), fi(most, most), fi("y", "b")))},
	} {
		line := strings.ReplaceAll(c.line, "KEY", hex)
		got, n, e := image.Read(line)
		if !same(got, row(c.want)) || n != 0 || e != api.OK {
			t.Errorf("Read of %s = %s, %d, %v", c.line, brief(got), n, e)
		}
		ahead := "string . - 61\n"
		after := strings.Replace(line, " . -", " 61 -", 1)
		if got, n, e := image.Read(ahead + after); len(got) != 2 || n != 0 || e != api.OK {
			t.Errorf("Read of %s behind a line = %s, %d, %v", c.line, brief(got), n, e)
		}
		checkWrong(t, ahead+strings.ReplaceAll(strings.Replace(c.line, " . -", " 61 -", 1), "KEY", hex+"78"), 1)
		checkWrong(t, ahead+strings.ReplaceAll(strings.Replace(c.line, " . -", " 61 -", 1), "KEY", hex+"7"), 1)
	}
}

func TestReadOfManyItems(t *testing.T) {
	const n = api.MaxLen
	ahead := row(stay("a", str("")))
	for _, c := range []struct{ most, over api.Value }{
		{list(great(n)...), list(great(n + 1)...)},
		{set(great(n)...), set(great(n + 1)...)},
		{greatZset(n), greatZset(n + 1)},
		{greatHash(n), greatHash(n + 1)},
	} {
		l := append(ahead, stay("k", c.most), stay("l", str("")))
		checkText(t, l, modelText(l))
		l[1].V = c.over
		checkWrong(t, modelText(l), 1)
		l[1].V = c.most
		l[0].V = c.over
		checkWrong(t, modelText(l), 0)
		l[0].V = str("")
	}
	for _, word := range []string{".", "61", ".:0", ".=."} { // no more than may be of them are read
		for _, kind := range []string{"string", "list", "set", "zset", "hash"} {
			checkWrong(t, kind+" . -"+strings.Repeat(" "+word, n+1)+"\n", 0)
		}
	}
}

func TestReadOfManyEntries(t *testing.T) {
	l := greatImage(api.MaxKeys + 1)
	text := modelText(l)
	last := modelLine(l[api.MaxKeys])
	checkText(t, l[:api.MaxKeys], strings.TrimSuffix(text, last))
	checkWrong(t, text, api.MaxKeys)
	checkWrong(t, text+last+"\n", api.MaxKeys)
	checkWrong(t, strings.TrimSuffix(text, "\n"), api.MaxKeys)
	checkWrong(t, strings.TrimSuffix(text, last)+"\n", api.MaxKeys)
	checkWrong(t, strings.TrimSuffix(text, last)+"s", api.MaxKeys)
	checkWrong(t, strings.TrimSuffix(text, "\n"+last), api.MaxKeys-1)
	checkWrong(t, "x"+text, 0)
}

// P9.5, P9.6: images with one text are alike; Read of Text is the image

func TestThereAndBack(t *testing.T) {
	m := newMaker(4)
	seen := map[string][]api.Entry{}
	for range 5000 {
		l := m.image(t, 8)
		text := modelText(l)
		checkText(t, l, text)
		if other, there := seen[text]; there && !image.Same(other, l) {
			t.Fatalf("%v and %v have one text", other, l)
		}
		seen[text] = l
	}
	for _, l := range rows(3, some()...) {
		if modelCheck(l) == api.OK {
			checkText(t, l, modelText(l))
		}
	}
}

// What Read tells is an image, and it is the one whose text was read.
func TestWhatIsReadIsWrittenSo(t *testing.T) {
	m := newMaker(5)
	for range 3000 {
		text := []byte(modelText(m.image(t, 4)))
		for range 1 + m.IntN(2) {
			i := m.IntN(len(text))
			switch m.IntN(4) {
			case 0:
				text[i] = " \n.-:=0123456789abcdefslzh"[m.IntN(26)]
			case 1:
				text = slices.Delete(text, i, i+1)
			case 2:
				text = slices.Insert(text, i, " \n.-:=0123456789abcdefslzh"[m.IntN(26)])
			default:
				j := m.IntN(len(text))
				text[i], text[j] = text[j], text[i]
			}
			if len(text) == 0 {
				break
			}
		}
		checkRead(t, string(text))
	}
}

// checkText: a text is that of an image, there and back, and its digest that of the text.
func checkText(t *testing.T, l []api.Entry, want string) {
	t.Helper()
	if s, e := image.Text(l); s != want || e != api.OK {
		t.Fatalf("Text of %s = %.300q, %v; want %.300q", brief(l), s, e, want)
	}
	got, n, e := image.Read(want)
	checkRow(t, "Read", want, got, e, l, api.OK)
	if n != 0 || !image.Same(got, l) {
		t.Fatalf("Read of %.300q = %s, %d", want, brief(got), n)
	}
	if n, e := image.Digest(l); n != table.Hash(0, want) || e != api.OK {
		t.Fatalf("Digest of %s = %d, %v", brief(l), n, e)
	}
}

// checkRead: Read tells what the model tells; what it tells has that text.
func checkRead(t *testing.T, s string) {
	t.Helper()
	got, n, e := image.Read(s)
	want, wantN, wantE := modelRead(s)
	checkRow(t, "Read", s, got, e, want, wantE)
	if n != wantN {
		t.Fatalf("Read of %.300q tells line %d; want %d", s, n, wantN)
	}
	if text, errno := image.Text(got); e == api.OK && (text != s || errno != api.OK) {
		t.Fatalf("Text of what was read from %.300q = %.300q, %v", s, text, errno)
	}
}

// checkWrong: a text is none, and the number of the line is told.
func checkWrong(t *testing.T, s string, line int) {
	t.Helper()
	if got, n, e := image.Read(s); got != nil || n != line || e != api.ErrText {
		t.Fatalf("Read of %.300q = %s, %d, %v; want %d, ErrText", s, brief(got), n, e, line)
	}
}
