package glob_test

import (
	"slices"
	"strconv"
	"strings"
	"testing"

	"millpond/api"
	"millpond/glob"
)

// short is a text that a failing test can tell.
func short(s string) string {
	if len(s) > 90 {
		return strconv.Quote(s[:90]) + " and " + strconv.Itoa(len(s)-90) + " more"
	}
	return strconv.Quote(s)
}

var (
	anyRun = api.Glob{Kind: api.GlobAny}
	anyOne = api.Glob{Kind: api.GlobOne}
)

func just(c byte) api.Glob { return api.Glob{Kind: api.GlobByte, C: c} }

// class are ranges, from and to of each side by side.
func class(not bool, ends string) api.Glob {
	g := api.Glob{Kind: api.GlobClass, Not: not}
	for i := 0; i < len(ends); i += 2 {
		g.Ranges = append(g.Ranges, api.Span{From: ends[i], To: ends[i+1]})
	}
	return g
}

func of(ends string) api.Glob { return class(false, ends) }

func but(ends string) api.Glob { return class(true, ends) }

func sameParts(a, b []api.Glob) bool {
	return slices.EqualFunc(a, b, func(x, y api.Glob) bool {
		return x.Kind == y.Kind && x.C == y.C && x.Not == y.Not && slices.Equal(x.Ranges, y.Ranges)
	})
}

// checkParse: a pattern is taken apart as the model does it.
func checkParse(t *testing.T, p string) {
	t.Helper()
	want, _ := modelParse(p)
	if l := glob.Parse(p); !sameParts(l, want) {
		t.Fatalf("Parse(%s) = %v; want %v", short(p), l, want)
	}
}

// checkMatch: with and without fold the model tells the same of a pattern and each text; of the texts that match, so does Filter.
func checkMatch(t *testing.T, p string, texts ...string) {
	t.Helper()
	for _, fold := range []bool{false, true} {
		m := modelOf(p, fold)
		var matching []string
		for _, s := range texts {
			want := m.matches(s)
			if got := glob.Match(p, s, fold); got != want {
				t.Fatalf("Match(%s, %s, %t) = %t", short(p), short(s), fold, got)
			}
			if want {
				matching = append(matching, s)
			}
		}
		if fold {
			return
		}
		if l := glob.Filter(p, texts...); !slices.Equal(l, matching) {
			t.Fatalf("Filter(%s) = %q; want %q", short(p), l, matching)
		}
	}
}

// oneByte are all texts of one byte.
func oneByte() []string {
	var l []string
	for c := range 256 {
		l = append(l, string([]byte{byte(c)}))
	}
	return l
}

// P4.1

func TestParseTellsThePartsInOrder(t *testing.T) {
	for p, want := range map[string][]api.Glob{
		"":             nil,
		"*":            {anyRun},
		"?":            {anyOne},
		"a":            {just('a')},
		"h?l*o":        {just('h'), anyOne, just('l'), anyRun, just('o')},
		"***":          {anyRun, anyRun, anyRun},
		"a**?*":        {just('a'), anyRun, anyRun, anyOne, anyRun},
		"]^-":          {just(']'), just('^'), just('-')},
		"\x00\x80\xff": {just(0), just(0x80), just(0xff)},
		`\*\?\[\]\a`:   {just('*'), just('?'), just('['), just(']'), just('a')},
		`\\*`:          {just('\\'), anyRun},
		`\`:            {just('\\')},
		`a\`:           {just('a'), just('\\')},
		`\\\`:          {just('\\'), just('\\')},
		"[a]b":         {of("aa"), just('b')},
		"[abc]":        {of("aabbcc")},
		"[cab-dz]":     {of("ccaabdzz")},
		"[a-b]":        {of("ab")},
		"[b-a]":        {of("ab")},
		"[z-a9-0]x":    {of("az09"), just('x')},
		"[a-a]":        {of("aa")},
		"[Y-b]":        {of("Yb")},
		"[y-B]":        {of("By")},
		"[^e]":         {but("ee")},
		"[^a-cx]y":     {but("acxx"), just('y')},
		"[^^]":         {but("^^")},
		"[a^]":         {of("aa^^")},
		"[*?[]":        {of("**??[[")},
		"[*-?]":        {of("*?")},
		"[]":           {of("")},
		"[]a]":         {of(""), just('a'), just(']')},
		"[^]":          {but("")},
		"[^]a]":        {but(""), just('a'), just(']')},
		"[":            {of("")},
		"[^":           {but("")},
		"[a":           {of("aa")},
		"[^a":          {but("aa")},
		"x[a-":         {just('x'), of("aa--")},
		"[-":           {of("--")},
		"[-]":          {of("--")},
		"[-a]":         {of("--aa")},
		"[--]":         {of("-]")},
		"[--a]":        {of("-a")},
		"[---]":        {of("--")},
		"[a-]":         {of("]a")},
		"[a-]b]c":      {of("]abb"), just('c')},
		"[^a-]":        {but("]a")},
		"[X-]":         {of("X]")},
		"[a-b-c]":      {of("ab--cc")},
		"[a-b-c-d]":    {of("ab--cd")},
		`[a-\]]`:       {of(`\a`), just(']')},
		`[\]]`:         {of("]]")},
		`[a\]b]c`:      {of("aa]]bb"), just('c')},
		`[\^]`:         {of("^^")},
		`[^\^]`:        {but("^^")},
		`[\-z]`:        {of("--zz")},
		`[a\-z]`:       {of("aa--zz")},
		`[\a-z]`:       {of("aa--zz")},
		`[\a-z-b]`:     {of("aa--bz")},
		`[\\-z]`:       {of(`\\--zz`)},
		`[\`:           {of(`\\`)},
		`[^\`:          {but(`\\`)},
		`[a\`:          {of(`aa\\`)},
		`[a\]`:         {of("aa]]")},
		`[\\]`:         {of(`\\`)},
		`[\\`:          {of(`\\`)},
		`[\\\`:         {of(`\\\\`)},
		`[-\`:          {of(`--\\`)},
		`[--\`:         {of(`-\`)},
		"[a][^b]*[c":   {of("aa"), but("bb"), anyRun, of("cc")},
		"[\xff-\x00]":  {of("\x00\xff")},
		"[\x80\xe4-é]": {of("\x80\x80\xc3\xe4\xa9\xa9")},
	} {
		if l := glob.Parse(p); !sameParts(l, want) {
			t.Errorf("Parse(%q) = %v; want %v", p, l, want)
		}
		checkParse(t, p)
	}
}

func TestParseOfAllShortPatterns(t *testing.T) {
	for _, p := range allOf(special+"aB", 5) {
		checkParse(t, p)
	}
	for _, rest := range allOf(`]^-\aB`, 5) {
		checkParse(t, "["+rest)
		checkParse(t, "[^"+rest)
	}
}

func TestParseOfEachByte(t *testing.T) {
	for _, a := range oneByte() {
		for _, p := range []string{a, `\` + a, "[" + a, "[" + a + "]", "[^" + a, "[^" + a + "]", "[a" + a + "]", `[\` + a + "]", a + a + "*"} {
			checkParse(t, p)
		}
		for _, b := range oneByte() {
			checkParse(t, "[x"+a+"-"+b+"]")
			checkParse(t, a+b)
		}
	}
}

func TestParseOfMixedBytes(t *testing.T) {
	m := newMaker(41)
	for range 20000 {
		checkParse(t, m.bytes(20))
	}
	checkParse(t, strings.Repeat("*", 65536))
	checkParse(t, strings.Repeat("ab?[c-d]", 8193))
	checkParse(t, "["+strings.Repeat("a-b", 30000))
}

func TestParseTellsNewMemory(t *testing.T) {
	const p = "[ab][c-de]*f[^g"
	want := []api.Glob{of("aabb"), of("cdee"), anyRun, just('f'), but("gg")}
	l := glob.Parse(p)
	_ = append(l[0].Ranges, api.Span{From: 1, To: 2})
	if !sameParts(l, want) {
		t.Errorf("lists of one answer share memory: %v", l)
	}
	for i := range l {
		clear(l[i].Ranges)
		if again := glob.Parse(p); !sameParts(again, want) || !sameParts(l[i+1:], want[i+1:]) {
			t.Errorf("Parse tells memory that it told before, or twice: %v, %v", again, l)
		}
	}
}

// P4.2

func TestMatchOfExamples(t *testing.T) {
	for _, x := range []struct {
		p, s string
		want bool
	}{
		{"h?llo", "hello", true}, {"h?llo", "hllo", false}, {"h?llo", "heello", false},
		{"h[^e]llo", "hallo", true}, {"h[^e]llo", "hello", false}, {"h[^e]llo", "hllo", false},
		{"h[a-b]llo", "hbllo", true}, {"h[b-a]llo", "hallo", true}, {"h[a-b]llo", "hcllo", false},
		{"h[ae]llo", "hello", true}, {"h[ae]llo", "hillo", false},
		{"", "", true}, {"", "a", false}, {"a", "", false}, {"?", "", false}, {"[^]", "", false},
		{"*", "", true}, {"*", "a", true}, {"**", "", true}, {"**", "everything", true}, {"***", "\x00\xff\n", true},
		{"a*", "a", true}, {"a*", "ab", true}, {"a*", "ba", false}, {"*a", "ba", true}, {"*a", "ab", false},
		{"a*b", "ab", true}, {"a*b", "a-b-b", true}, {"a*b", "a-b-", false}, {"a*b", "a", false},
		{"*a*b*", "xxaxxbxx", true}, {"*a*b*", "xxbxxaxx", false}, {"a**b", "acb", true}, {"a*?", "a", false}, {"a?*", "ab", true},
		{"*ab", "aab", true}, {"*aab*", "aaab", true}, {"*ab?b", "abbaab", false}, {"*ab?b", "abbabab", true}, {"*ab?b", "abbab-b", true},
		{"[", "", false}, {"[", "[", false}, {"[", "a", false}, {"[]", "]", false}, {"[]", "", false}, {"[]a]", "a]", false},
		{"[^", "a", true}, {"[^", "", false}, {"[^", "ab", false}, {"[^", "^", true}, {"[^]", "]", true}, {"[^]a]", "xa]", true}, {"[^]a]", "x", false},
		{`a\`, `a\`, true}, {`a\`, "a", false}, {`\`, `\`, true}, {`\\`, `\`, true}, {`\\`, `\\`, false},
		{`\*`, "*", true}, {`\*`, "a", false}, {`\?`, "a", false}, {`\a`, "a", true}, {`\a`, `\a`, false}, {`\[a]`, "[a]", true},
		{`[\]]`, "]", true}, {`[\]]`, `\`, false}, {`[a\`, `\`, true}, {`[a\]`, "]", true}, {`[a\]`, `\`, false}, {`[a\]`, "a", true},
		{"[a-", "-", true}, {"[a-", "a", true}, {"[a-", "b", false}, {"[-a]", "-", true}, {"[-a]", "b", false},
		{"[a-]", "^", true}, {"[a-]", "_", true}, {"[a-]", "-", false}, {"[a-]", "b", false}, {"[a-]", "]", true},
		{"[X-]x]", "]", true}, {"[X-]x]", "Z", true}, {"[X-]x]", "x", true}, {"[X-]x]", "-", false},
		{"[*]", "*", true}, {"[*]", "a", false}, {"[?]", "a", false}, {"[^*]", "a", true},
		{"[\x00-\xff]", "\x80", true}, {"[^\x00-\xff]", "\x80", false}, {"[\x80-\xff]", "\x7f", false}, {"?", "\xff", true}, {"?", "é", false}, {"??", "é", true},
		{"[é]", "é", false}, {"[é][é]", "é", true}, {"\xe9", "\xe9", true}, {"\xe9", "\xc9", false},
		{"a", "A", false}, {"A", "a", false}, {"[a-z]", "B", false}, {"[^a]", "A", true},
		{"[Y-b]", "Z", true}, {"[Y-b]", "_", true}, {"[Y-b]", "c", false}, {"[Y-b]", "y", false}, {"[9-_]", "A", true}, {"[9-_]", "a", false}, {"[A-~]", "_", true},
		{"a\nb", "a\nb", true}, {"a?b", "a\nb", true}, {"\x00", "\x00", true}, {"\x00", "", false},
	} {
		if got := glob.Match(x.p, x.s, false); got != x.want {
			t.Errorf("Match(%q, %q, false) = %t", x.p, x.s, got)
		}
	}
}

func TestMatchWithFold(t *testing.T) {
	for _, x := range []struct {
		p, s string
		want bool
	}{
		{"hello", "HeLLo", true}, {"HELLO", "hEllo", true}, {"h?l*O", "HELLo", true}, {"hello", "HELL0", false},
		{`\A`, "a", true}, {`\a`, "A", true}, {"az", "AZ", true}, {"AZ", "az", true},
		{"[abc]", "B", true}, {"[ABC]", "b", true}, {"[ABC]", "d", false}, {`[\A]`, "a", true},
		{"[^a]", "A", false}, {"[^A]", "a", false}, {"[^A]", "b", true}, {"[^a-c]", "B", false}, {"[^A-C]", "b", false}, {"[^A-C]", "D", true},
		{"[a-c]", "B", true}, {"[A-C]", "b", true}, {"[C-A]", "b", true}, {"[A-C]", "d", false}, {"[A-C]", "D", false},
		{"@", "`", false}, {"`", "@", false}, {"[", "{", false}, {`\[`, "{", false}, {"{", "[", false}, {"\xc0", "\xe0", false}, {"[\xc0-\xdf]", "\xe0", false}, {"é", "É", false},
		{"\xc1", "a", false}, {"1", "Q", false}, {"*", "Aa", true}, {"**z", "aZ", true}, {"", "", true}, {"", "A", false},
	} {
		if got := glob.Match(x.p, x.s, true); got != x.want {
			t.Errorf("Match(%q, %q, true) = %t", x.p, x.s, got)
		}
	}
}

// With fold the two bytes of a range are taken as their small letters, and then the range goes from the lesser one to the greater one.
func TestMatchWithFoldOfRanges(t *testing.T) {
	for _, x := range []struct{ p, yes, no string }{
		{"[A-C]", "ABCabc", "@`Dd-"}, {"[C-A]", "ABCabc", "@`Dd-"}, {"[A-c]", "ABCabc", "DdZ[_`@"}, {"[a-C]", "ABCabc", "DdZ[_`@"}, {"[C-a]", "ABCabc", "DdZ[_`@"},
		{"[Y-b]", "BbCcMmXxYy", "AaZz[_`@{"}, {"[b-Y]", "BbCcMmXxYy", "AaZz[_`@{"}, {"[y-B]", "BbCcMmXxYy", "AaZz[_`@{"}, {"[Y-B]", "BbCcMmXxYy", "AaZz[_`@{"},
		{"[Z-a]", "AaMmZz", "@[_`{"}, {"[A-A]", "Aa", "@`Bb"}, {"[A-a]", "Aa", "@[_`BbZz"}, {`[\Z-a]`, "Zz-Aa", "Mm[_`"},
		{"[9-_]", "9:;@[\\]^_", "8`AaMmZz"}, {"[_-9]", "9:;@[\\]^_", "8`AaMmZz"}, {"[@-[]", "@[", "AaZz\\_`?"},
		{"[9-Z]", "9:@AaMmZz[_`", "8{~"}, {"[Z-9]", "9:@AaMmZz[_`", "8{~"}, {"[9-z]", "9:@AaMmZz[_`", "8{~"},
		{"[A-~]", "AaBbZz{~", "@[_`\x7f"}, {"[`-~]", "`AaBbZz{~", "@[_\x7f"}, {"[@-B]", "@[_`AaBb", "?Cc"}, {"[_-B]", "_`AaBb", "^Cc@"}, {"[y-{]", "YyZz{", "[Xx|"}, {"[Y-{]", "YyZz{", "[\\Xx|"},
		{"[\x00-A]", "\x00@[_`Aa", "Bb{"}, {"[\xff-A]", "AaZz{\x80\xc1\xff", "@[_`"}, {"[\xc1-\xc3]", "\xc1\xc2\xc3", "\xe1\xe2Aa"},
		{"[X-]]", "]_`AaXx", "[\\Yy"}, {"[YC-A_]", "YyAaBbCc_", "DdXxZz[`"},
	} {
		for _, not := range []bool{false, true} {
			p := x.p
			if not {
				p = "[^" + p[1:]
			}
			for i := range len(x.yes) {
				if got := glob.Match(p, x.yes[i:i+1], true); got == not {
					t.Errorf("Match(%q, %q, true) = %t", p, x.yes[i:i+1], got)
				}
			}
			for i := range len(x.no) {
				if got := glob.Match(p, x.no[i:i+1], true); got != not {
					t.Errorf("Match(%q, %q, true) = %t", p, x.no[i:i+1], got)
				}
			}
		}
	}
}

func TestMatchOfAllShortPatternsAndTexts(t *testing.T) {
	texts := allOf(special+"aB", 2)
	texts = append(texts, "b", "A", "C", "c", "Z", "z", "_", "`", "@", "{", "bA", "Cb", "\x00", "\xff", "aaa", "aBa", "a-a", "]]]", `\\\`, "aaBa", "BaaBa", "BBaaBaB")
	for _, p := range allOf(special+"aB", 4) {
		checkMatch(t, p, texts...)
	}
}

func TestMatchOfRunsAmongBytes(t *testing.T) {
	texts := allOf("aB", 6)
	for _, p := range allOf("*?aB", 5) {
		checkMatch(t, p, texts...)
	}
}

func TestMatchOfEachByteInClasses(t *testing.T) {
	texts := append(oneByte(), "", "ab", "--")
	for _, rest := range allOf(`]^-\aB`, 3) {
		checkMatch(t, "["+rest, texts...)
	}
	ends := "\x00\x019\x3e\x3f\x40ABMYZ[]_`abmyz{\x7f\x80\xbf\xc0\xe0\xfe\xff"
	for i := range len(ends) {
		for k := range len(ends) {
			r := ends[i:i+1] + "-" + ends[k:k+1]
			checkMatch(t, "[_"+r+"]", texts...)
			checkMatch(t, "[^_"+r+"]", texts...)
		}
	}
	for _, s := range oneByte() {
		checkMatch(t, s, texts...)
		checkMatch(t, `\`+s, texts...)
	}
}

func TestMatchOfMixedBytes(t *testing.T) {
	m := newMaker(42)
	for range 4000 {
		p := m.bytes(9)
		var texts []string
		for range 20 {
			texts = append(texts, m.bytes(5), m.text("abAB", 5))
		}
		checkMatch(t, p, append(texts, p)...)
	}
}

// Patterns of many parts: there places stand in more than one word of bits.
func TestMatchOfManyParts(t *testing.T) {
	m := newMaker(43)
	for _, n := range []int{1, 31, 32, 33, 62, 63, 64, 65, 66, 127, 128, 129, 191, 192, 193, 300} {
		a := strings.Repeat("a", n)
		texts := []string{a, a[1:], a + "a", a[1:] + "b", "b" + a[1:], a + "b", "b" + a, a + a, strings.ToUpper(a)}
		for _, p := range []string{a, a + "*", "*" + a, "*" + a + "*", a[:n/2] + "*" + a[n/2:], strings.Repeat("?", n), strings.Repeat("[a]", n), strings.Repeat(`\a`, n), strings.Repeat("a*", n), strings.Repeat("*a", n), strings.Repeat("[^b]*", n)} {
			checkMatch(t, p, texts...)
		}
	}
	for range 100 {
		s := m.text("ab", 200)
		p := []byte(s)
		for range m.IntN(6) {
			if i := m.IntN(len(p) + 1); i < len(p) {
				p[i] = "*?ab"[m.IntN(4)]
			}
		}
		checkMatch(t, string(p), s, s+"a", s+"b", "a"+s, m.text("ab", 200))
	}
}

func TestMatchOfTheLongestPatternsAndTexts(t *testing.T) {
	const most = 65536
	a := strings.Repeat("a", most)
	for _, x := range []struct {
		p, s string
		want bool
	}{
		{a, a, true}, {a, a[1:], false}, {a, a[1:] + "b", false}, {a, "b" + a[1:], false}, {a[1:], a, false}, {a[1:] + "?", a, true}, {a[1:] + "*", a, true},
		{"*", a, true}, {"*b", a, false}, {strings.Repeat("*", most), "", true}, {strings.Repeat("*", most), a, true}, {strings.Repeat("?", most), a, true}, {strings.Repeat("?", most), a[1:], false},
		{"[" + a[1:], "a", true}, {"[^" + a[2:], "b", true}, {"[^" + a[2:], "a", false}, {strings.Repeat(`\a`, most/2), a[most/2:], true}, {a[1:] + `\`, a[1:] + `\`, true},
		{"*", a + "a", false}, {"**", a + "a", false}, {a + "a", a + "a", false}, {a + "a", a, false}, {a + "*", a, false}, {strings.Repeat("*", most+1), "", false}, {strings.Repeat("*", most+1), a, false}, {"[" + a, "a", false}, {"[^" + a, "b", false}, {"", a + "a", false},
	} {
		if got := glob.Match(x.p, x.s, false); got != x.want {
			t.Errorf("Match(%s, %s, false) = %t", short(x.p), short(x.s), got)
		}
		if got := len(glob.Filter(x.p, x.s)) == 1; got != x.want {
			t.Errorf("Filter(%s, %s) tells %t", short(x.p), short(x.s), got)
		}
	}
	if !glob.Match("A*", a, true) || glob.Match("A*", a+"a", true) || !glob.Match("A"+a[1:], a, true) || glob.Match("A*"+a[1:], a, true) {
		t.Errorf("with fold other patterns or texts are too long")
	}
}

// Whoever tried the places behind each * one by one would not end.
func TestMatchOfManyRunsEnds(t *testing.T) {
	a := strings.Repeat("a", 65536)
	for _, x := range []struct {
		p    string
		want bool
	}{
		{strings.Repeat("*a", 32768), true}, {strings.Repeat("*a", 32767) + "*b", false}, {strings.Repeat("a*", 32767) + "b*", false},
		{"*" + a[:32767] + "b", false}, {"*" + a[:32767] + "b*", false}, {"*" + a[:32767] + "*", true}, {strings.Repeat("*?", 32768), true}, {strings.Repeat("*[^b]", 10000) + "[b]", false},
	} {
		if got := glob.Match(x.p, a, false); got != x.want {
			t.Errorf("Match(%s) = %t", short(x.p), got)
		}
	}
}

func TestFilterKeepsTheOrder(t *testing.T) {
	long := strings.Repeat("a", 65537)
	for _, x := range []struct {
		p       string
		l, want []string
	}{
		{"*", nil, nil}, {"", nil, nil}, {"", []string{"", "a", ""}, []string{"", ""}},
		{"a*", []string{"b", "ab", "a", "ba", "ab"}, []string{"ab", "a", "ab"}},
		{"*", []string{"c", "a", "", "b"}, []string{"c", "a", "", "b"}},
		{"x", []string{"y", "X", ""}, nil}, {"[A-Z]", []string{"a", "B", "c", "D"}, []string{"B", "D"}},
		{"a*", []string{"a", long, long[1:], "A", "aa"}, []string{"a", long[1:], "aa"}},
		{strings.Repeat("*", 65536), []string{"a", long}, []string{"a"}}, {strings.Repeat("*", 65537), []string{"a", "", long}, nil},
	} {
		was := slices.Clone(x.l)
		l := glob.Filter(x.p, x.l...)
		if !slices.Equal(l, x.want) {
			t.Errorf("Filter(%s) of %d tells %d; want %d", short(x.p), len(x.l), len(l), len(x.want))
		}
		for i := range l {
			l[i] = "another one"
		}
		if !slices.Equal(x.l, was) {
			t.Errorf("Filter(%s) changes what it is given, or shares it", short(x.p))
		}
	}
}

// P4.3

func TestQuote(t *testing.T) {
	for s, want := range map[string]string{
		"": "", "abc": "abc", special: `\*\?\[\]\^\-\\`, "a*b": `a\*b`, `\\`: `\\\\`, "é\x00\xff\n": "é\x00\xff\n", "[^a-z]?": `\[\^a\-z\]\?`,
	} {
		if p := glob.Quote(s); p != want {
			t.Errorf("Quote(%q) = %q; want %q", s, p, want)
		}
	}
	for _, s := range oneByte() {
		want := s
		if strings.Contains(special, s) {
			want = `\` + s
		}
		if p := glob.Quote(s); p != want {
			t.Errorf("Quote(%q) = %q; want %q", s, p, want)
		}
	}
}

func TestPlainAndHead(t *testing.T) {
	for _, x := range []struct {
		p, head string
		all     bool
	}{
		{"", "", true}, {"abc", "abc", true}, {`a\*b`, "a*b", true}, {`\`, `\`, true}, {`a\`, `a\`, true}, {`\\\`, `\\`, true}, {"]^-", "]^-", true}, {"\x00\xff", "\x00\xff", true},
		{"*", "", false}, {"?", "", false}, {"[a]", "", false}, {"[", "", false}, {"[^", "", false}, {"[a", "", false},
		{"a*", "a", false}, {"ab?c", "ab", false}, {"ab[c]d", "ab", false}, {`a\*b*c\`, "a*b", false}, {"*abc", "", false}, {"abc*", "abc", false}, {`x\[y[z]`, "x[y", false},
	} {
		plain := ""
		if x.all {
			plain = x.head
		}
		if s, ok := glob.Plain(x.p); s != plain || ok != x.all {
			t.Errorf("Plain(%q) = %q, %t; want %q, %t", x.p, s, ok, plain, x.all)
		}
		if s := glob.Head(x.p); s != x.head {
			t.Errorf("Head(%q) = %q; want %q", x.p, s, x.head)
		}
	}
}

func TestPlainAndHeadOfAllShortPatterns(t *testing.T) {
	for _, p := range allOf(special+"aB", 5) {
		parts, _ := modelParse(p)
		n := slices.IndexFunc(parts, func(g api.Glob) bool { return g.Kind != api.GlobByte })
		all := n < 0
		if all {
			n = len(parts)
		}
		var head string
		for _, g := range parts[:n] {
			head += string([]byte{g.C})
		}
		if s := glob.Head(p); s != head {
			t.Fatalf("Head(%q) = %q; want %q", p, s, head)
		}
		if !all {
			head = ""
		}
		if s, ok := glob.Plain(p); s != head || ok != all {
			t.Fatalf("Plain(%q) = %q, %t; want %q, %t", p, s, ok, head, all)
		}
	}
}

// No text and no pattern is too long for these.
func TestQuotePlainAndHeadOfLongTexts(t *testing.T) {
	s := strings.Repeat("a*", 65537)
	p := glob.Quote(s)
	if p != strings.Repeat(`a\*`, 65537) {
		t.Errorf("Quote(%s) = %s", short(s), short(p))
	}
	if text, ok := glob.Plain(p); text != s || !ok {
		t.Errorf("Plain(%s) = %s, %t", short(p), short(text), ok)
	}
	if text := glob.Head(p + "*"); text != s {
		t.Errorf("Head(%s and *) = %s", short(p), short(text))
	}
}

// P4.4

func TestAQuotedTextMatchesAlone(t *testing.T) {
	texts := allOf(special+"aA", 3)
	for _, s := range texts {
		p := glob.Quote(s)
		if l := glob.Filter(p, texts...); len(l) != 1 || l[0] != s {
			t.Fatalf("Quote(%q) = %q: it matches %q", s, p, l)
		}
		if text, ok := glob.Plain(p); text != s || !ok {
			t.Fatalf("Quote(%q) = %q, Plain of it %q, %t", s, p, text, ok)
		}
	}
	m := newMaker(44)
	for range 5000 {
		s, other := m.bytes(12), m.bytes(12)
		p := glob.Quote(s)
		if text, ok := glob.Plain(p); text != s || !ok || !glob.Match(p, s, false) || other != s && glob.Match(p, other, false) {
			t.Fatalf("Quote(%q) = %q, Plain of it %q, %t", s, p, text, ok)
		}
	}
}

// P4.5

func TestWhatMatchesBeginsWithTheHead(t *testing.T) {
	texts := allOf(`*[\aB`, 4)
	for _, p := range allOf(`*[]\aB`, 5) {
		head := glob.Head(p)
		for _, s := range glob.Filter(p, texts...) {
			if !strings.HasPrefix(s, head) {
				t.Fatalf("%q matches %q, whose Head is %q", s, p, head)
			}
		}
	}
}

// P4.6

func TestPatternsOneBehindTheOther(t *testing.T) {
	patterns := allOf(special+"aB", 2)
	for _, rest := range allOf(`]^-\a`, 3) {
		patterns = append(patterns, "["+rest)
	}
	texts := allOf(`*]-\aB`, 2)
	matching := map[string][]string{}
	for _, p := range patterns {
		matching[p] = glob.Filter(p, texts...)
	}
	for _, p := range patterns {
		if _, within := modelParse(p); within || strings.HasSuffix(p, `\`) {
			continue
		}
		for _, q := range patterns {
			checkBoth(t, p+q, matching[p], matching[q])
		}
	}
}

// checkBoth: what stands in one list and behind it what stands in the other one matches, at a few places of both.
func checkBoth(t *testing.T, p string, first, second []string) {
	t.Helper()
	var both []string
	for i := 0; i < len(first); i += 1 + len(first)/6 {
		for k := 0; k < len(second); k += 1 + len(second)/6 {
			both = append(both, first[i]+second[k])
		}
	}
	if l := glob.Filter(p, both...); !slices.Equal(l, both) {
		t.Fatalf("%q matches %q; want %q", p, l, both)
	}
}
