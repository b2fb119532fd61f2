package number_test

import (
	"math"
	"math/big"
	"regexp"
	"slices"
	"strconv"
	"strings"
	"testing"

	"millpond/api"
	"millpond/number"
)

const time40 = 1 << 40

// edges are numbers near which a call may go wrong.
func edges() []int64 {
	l := []int64{}
	for _, n := range []int64{
		math.MinInt64 + 2, math.MinInt64 / 10, -(1 << 62), -(1 << 50), -(1 << 41), -time40, -(1 << 32), -(1 << 31), -1000, -100, -10, -3,
		0, 3, 10, 100, 1000, 1 << 31, 1 << 32, 3037000499, time40 / 1000, time40, 1 << 41, 1 << 50, 1 << 62, math.MaxInt64 / 1000, math.MaxInt64 / 10, math.MaxInt64 - 2,
	} {
		for k := int64(-2); k <= 2; k++ {
			l = append(l, n+k)
		}
	}
	slices.Sort(l)
	return slices.Compact(l)
}

// mixed are numbers of all sizes, the same at each run.
func mixed(count int) []int64 {
	l := []int64{}
	x := uint64(1)
	for i := range count {
		x = x*6364136223846793005 + 1442695040888963407
		l = append(l, int64(x)>>(i%64))
	}
	return l
}

// fits tells a number without bound as one of 64 bits, if it is one.
func fits(n *big.Int) (int64, api.Errno) {
	if !n.IsInt64() {
		return 0, api.ErrOver
	}
	return n.Int64(), api.OK
}

// wholeText is a number's text but for its size.
var wholeText = regexp.MustCompile(`\A(0|-?[1-9][0-9]*)\z`)

func parseByBig(s string) (int64, api.Errno) {
	if !wholeText.MatchString(s) {
		return 0, api.ErrNumber
	}
	n, _ := new(big.Int).SetString(s, 10)
	if !n.IsInt64() {
		return 0, api.ErrNumber
	}
	return n.Int64(), api.OK
}

func checkParse(t *testing.T, s string) {
	t.Helper()
	want, fault := parseByBig(s)
	if n, e := number.Parse(s); n != want || e != fault {
		t.Errorf("Parse(%.40q) = %d, %d; want %d, %d", s, n, e, want, fault)
	}
}

// P1.1

func TestParseTellsTheNumberOfItsText(t *testing.T) {
	for s, want := range map[string]int64{
		"0": 0, "1": 1, "-1": -1, "9": 9, "10": 10, "-10": -10, "100": 100, "1234567890": 1234567890, "-9087": -9087,
		"9223372036854775806": math.MaxInt64 - 1, "9223372036854775807": math.MaxInt64,
		"-9223372036854775807": math.MinInt64 + 1, "-9223372036854775808": math.MinInt64,
		"1000000000000000000": 1e18, "-1000000000000000000": -1e18,
	} {
		if n, e := number.Parse(s); n != want || e != api.OK {
			t.Errorf("Parse(%q) = %d, %d", s, n, e)
		}
		if u := number.Text(want); u != s {
			t.Errorf("Text(%d) = %q", want, u)
		}
	}
}

func TestParseRefusesWhatIsNoNumbersText(t *testing.T) {
	for _, s := range []string{
		"", "-", "+", "--", "--1", "-+1", "+-1", "+0", "+1", "-0", "-00", "00", "01", "-01", "001", "0-", "0-1", "1-", "1-2", "1+", "00000000000000000000",
		" ", " 1", "1 ", "- 1", "1 2", "\t1", "1\n", "\n", "1\r\n", "\x00", "1\x00", "\x001", "1\xff", "\xff", "\x80", "-\xff", "1\xc3",
		"a", "a1", "1a", "1e3", "1E3", "0x10", "0b1", "0o7", "1_000", "1,000", "1.0", "1.", ".1", "0.0", "inf", "nan", "1/", "1:", "/", ":",
		"١", "１", "1１", "−1", "²", "\uFEFF1", "\u2007", "١٢",
		"9223372036854775808", "9223372036854775809", "9223372036854775810", "-9223372036854775809", "-9223372036854775810",
		"10000000000000000000", "-10000000000000000000", "18446744073709551615", "18446744073709551616", "18446744073709551617",
		"-18446744073709551616", "-18446744073709551617", "99999999999999999999", "100000000000000000000", "-92233720368547758080",
		"36893488147419103233", "184467440737095516170", "340282366920938463463374607431768211457",
		strings.Repeat("1", 19) + "x", strings.Repeat("9", 20), strings.Repeat("1", 1<<20), "-" + strings.Repeat("8", 1<<20), strings.Repeat("-", 1<<16), strings.Repeat("0", 1<<16) + "1",
	} {
		if n, e := number.Parse(s); n != 0 || e != api.ErrNumber {
			t.Errorf("Parse(%.40q) = %d, %d", s, n, e)
		}
	}
}

func TestParseOfAllShortTexts(t *testing.T) {
	signs := []string{"-", "+", "0", "1", "9", " ", "\n", "/", ":", "a", "\xff", "٣"}
	l := []string{""}
	for range 4 {
		longer := []string{}
		for _, s := range l {
			checkParse(t, s)
			for _, x := range signs {
				longer = append(longer, s+x)
			}
		}
		l = longer
	}
	for _, s := range l {
		checkParse(t, s)
	}
}

func TestParseOfEveryByteWithinANumber(t *testing.T) {
	for b := range 256 {
		x := string([]byte{byte(b)})
		for _, s := range []string{x, x + "1", "1" + x, "-" + x, "-1" + x, "-" + x + "1", "12" + x + "34"} {
			checkParse(t, s)
		}
	}
}

func TestParseNearEitherEnd(t *testing.T) {
	for _, end := range []string{"9223372036854775807", "-9223372036854775808", "0", "-922337203685477580", "922337203685477580", "18446744073709551615"} {
		n, _ := new(big.Int).SetString(end, 10)
		for k := int64(-120); k <= 120; k++ {
			s := new(big.Int).Add(n, big.NewInt(k)).String()
			checkParse(t, s)
			checkParse(t, s+"0")
			checkParse(t, s+"9")
		}
	}
}

func TestTextIsInDecimalDigits(t *testing.T) {
	for _, n := range append(edges(), mixed(2000)...) {
		s := number.Text(n)
		if s != strconv.FormatInt(n, 10) || !wholeText.MatchString(s) {
			t.Errorf("Text(%d) = %q", n, s)
		}
	}
}

// P1.2

func TestSumOfSome(t *testing.T) {
	const most, least = math.MaxInt64, math.MinInt64
	for _, x := range []struct {
		l    []int64
		n    int64
		over bool
	}{
		{nil, 0, false}, {[]int64{}, 0, false}, {[]int64{0}, 0, false}, {[]int64{7}, 7, false}, {[]int64{-7}, -7, false},
		{[]int64{most}, most, false}, {[]int64{least}, least, false}, {[]int64{1, 2, -4}, -1, false}, {[]int64{5, 5, 5, 5}, 20, false},
		{[]int64{most, 0}, most, false}, {[]int64{least, 0}, least, false}, {[]int64{0, least}, least, false}, {[]int64{most, least}, -1, false}, {[]int64{least, most}, -1, false},
		{[]int64{most - 1, 1}, most, false}, {[]int64{least + 1, -1}, least, false}, {[]int64{-1, least + 1}, least, false}, {[]int64{-1, least}, 0, true},
		{[]int64{most, 1}, 0, true}, {[]int64{1, most}, 0, true}, {[]int64{least, -1}, 0, true}, {[]int64{most, most}, 0, true}, {[]int64{least, least}, 0, true},
		{[]int64{most, -1, 1}, most, false}, {[]int64{least, 1, -1}, least, false}, {[]int64{1 << 62, 1 << 62}, 0, true}, {[]int64{-1 << 62, -1 << 62}, least, false},
	} {
		n, e := number.Sum(x.l...)
		if n != x.n || (e == api.ErrOver) != x.over || !x.over && e != api.OK {
			t.Errorf("Sum(%v) = %d, %d", x.l, n, e)
		}
	}
}

func TestSumLooksAtEachSumOnTheWay(t *testing.T) {
	for _, l := range [][]int64{
		{math.MaxInt64, 1, -1}, {math.MinInt64, -1, 1}, {1, math.MaxInt64, math.MinInt64}, {math.MaxInt64, math.MaxInt64, math.MinInt64, math.MinInt64},
		{math.MaxInt64, 2, math.MinInt64, 5}, {0, 0, math.MinInt64, -5, 5, 0}, {math.MaxInt64, math.MaxInt64, 2}, {math.MinInt64, math.MinInt64, 1},
	} {
		if n, e := number.Sum(l...); n != 0 || e != api.ErrOver {
			t.Errorf("Sum(%v) = %d, %d", l, n, e)
		}
	}
}

func TestSumAsWithoutBound(t *testing.T) {
	l := append(edges(), mixed(60)...)
	for _, a := range l {
		for _, b := range l {
			want, fault := fits(new(big.Int).Add(big.NewInt(a), big.NewInt(b)))
			if n, e := number.Sum(a, b); n != want || e != fault {
				t.Errorf("Sum(%d, %d) = %d, %d", a, b, n, e)
			}
		}
	}
}

func TestSumLeavesWhatIsHandedIn(t *testing.T) {
	l := []int64{3, -4, math.MaxInt64, math.MaxInt64}
	kept := slices.Clone(l)
	number.Sum(l...)
	number.Sum(l[:3]...)
	if !slices.Equal(l, kept) {
		t.Errorf("handed in: %v; now %v", kept, l)
	}
}

func TestTimes(t *testing.T) {
	const most, least = math.MaxInt64, math.MinInt64
	for _, x := range []struct {
		a, b, n int64
		over    bool
	}{
		{0, 0, 0, false}, {0, least, 0, false}, {most, 0, 0, false}, {3, 4, 12, false}, {-3, 4, -12, false}, {-3, -4, 12, false}, {1, most, most, false}, {1, least, least, false},
		{-1, most, -most, false}, {-1, least, 0, true}, {least, -1, 0, true}, {least, 2, 0, true}, {most, 2, 0, true}, {least, least, 0, true}, {most, most, 0, true}, {most, least, 0, true},
		{1 << 32, 1 << 31, 0, true}, {-1 << 32, 1 << 31, least, false}, {1 << 31, -1 << 32, least, false}, {-1 << 32, -1 << 31, 0, true}, {1 << 32, 1 << 32, 0, true}, {-1 << 32, 1 << 32, 0, true},
		{3037000499, 3037000499, 9223372030926249001, false}, {3037000500, 3037000500, 0, true}, {most / 7, 7, most, false}, {most/7 + 1, 7, 0, true}, {least / 2, 2, least, false}, {least/2 - 1, 2, 0, true},
	} {
		n, e := number.Times(x.a, x.b)
		if n != x.n || (e == api.ErrOver) != x.over || !x.over && e != api.OK {
			t.Errorf("Times(%d, %d) = %d, %d", x.a, x.b, n, e)
		}
	}
}

func TestTimesAsWithoutBound(t *testing.T) {
	l := append(edges(), mixed(120)...)
	for _, a := range l {
		for _, b := range l {
			want, fault := fits(new(big.Int).Mul(big.NewInt(a), big.NewInt(b)))
			if n, e := number.Times(a, b); n != want || e != fault {
				t.Errorf("Times(%d, %d) = %d, %d", a, b, n, e)
			}
		}
	}
}

// P1.3

// sizes are how many there may be of what is counted.
func sizes() []int {
	return []int{math.MinInt, math.MinInt + 1, -1000, -2, -1, 0, 1, 2, 3, 5, 100, 1 << 16, math.MaxInt - 1, math.MaxInt}
}

// placesNear are places near either end of n.
func placesNear(n int) []int64 {
	l := append(edges(), mixed(40)...)
	for k := int64(-3); k <= 3; k++ {
		l = append(l, int64(n)+k, -int64(n)+k)
	}
	return l
}

func TestPlace(t *testing.T) {
	for _, x := range []struct {
		i     int64
		n     int
		place int
		ok    bool
	}{
		{0, 3, 0, true}, {1, 3, 1, true}, {2, 3, 2, true}, {3, 3, 0, false}, {4, 3, 0, false}, {-1, 3, 2, true}, {-2, 3, 1, true}, {-3, 3, 0, true}, {-4, 3, 0, false},
		{0, 1, 0, true}, {-1, 1, 0, true}, {1, 1, 0, false}, {-2, 1, 0, false}, {0, 0, 0, false}, {-1, 0, 0, false}, {1, 0, 0, false},
		{0, -1, 0, false}, {-1, -1, 0, false}, {-5, -3, 0, false}, {5, -3, 0, false}, {1, math.MinInt, 0, false}, {-1, math.MinInt, 0, false},
		{math.MinInt64, 3, 0, false}, {math.MaxInt64, 3, 0, false}, {math.MinInt64, -3, 0, false}, {math.MinInt64, math.MinInt, 0, false}, {math.MaxInt64, math.MinInt, 0, false},
		{math.MaxInt64 - 1, math.MaxInt, math.MaxInt - 1, true}, {math.MaxInt64, math.MaxInt, 0, false}, {-math.MaxInt64, math.MaxInt, 0, true}, {math.MinInt64, math.MaxInt, 0, false},
	} {
		if i, ok := number.Place(x.i, x.n); i != x.place || ok != x.ok {
			t.Errorf("Place(%d, %d) = %d, %t", x.i, x.n, i, ok)
		}
	}
}

// fromEnd is a place, with n added, if it is below 0.
func fromEnd(i int64, n int) *big.Int {
	place := big.NewInt(i)
	if i < 0 {
		place.Add(place, big.NewInt(int64(max(n, 0))))
	}
	return place
}

func TestPlaceByWords(t *testing.T) {
	for _, n := range sizes() {
		for _, i := range placesNear(n) {
			want, there := 0, false
			if p := fromEnd(i, n); p.Sign() >= 0 && p.Cmp(big.NewInt(int64(max(n, 0)))) < 0 {
				want, there = int(p.Int64()), true
			}
			if p, ok := number.Place(i, n); p != want || ok != there {
				t.Errorf("Place(%d, %d) = %d, %t; want %d, %t", i, n, p, ok, want, there)
			}
		}
	}
}

func TestRange(t *testing.T) {
	const most, least = math.MaxInt64, math.MinInt64
	for _, x := range []struct {
		first, last int64
		n           int
		from, to    int
	}{
		{0, 0, 3, 0, 1}, {0, 2, 3, 0, 3}, {1, 1, 3, 1, 2}, {2, 2, 3, 2, 3}, {1, -1, 5, 1, 5}, {-2, -1, 5, 3, 5}, {-1, -1, 3, 2, 3}, {-3, -3, 3, 0, 1}, {0, -1, 3, 0, 3},
		{-100, 100, 3, 0, 3}, {0, 3, 3, 0, 3}, {0, 100, 3, 0, 3}, {-4, 0, 3, 0, 1}, {-4, -3, 3, 0, 1}, {-3, 2, 3, 0, 3}, {least, most, 3, 0, 3}, {2, most, 3, 2, 3},
		{2, 1, 3, 0, 0}, {3, 3, 3, 0, 0}, {3, 4, 3, 0, 0}, {3, 100, 3, 0, 0}, {0, -4, 3, 0, 0}, {-5, -4, 3, 0, 0}, {-1, -2, 3, 0, 0}, {most, most, 3, 0, 0}, {least, least, 3, 0, 0}, {most, least, 3, 0, 0},
		{0, 0, 0, 0, 0}, {0, -1, 0, 0, 0}, {-1, -1, 0, 0, 0}, {-1, 1, 0, 0, 0}, {least, most, 0, 0, 0}, {0, 0, 1, 0, 1}, {0, -1, 1, 0, 1}, {1, 1, 1, 0, 0},
		{0, 0, -1, 0, 0}, {0, 5, -3, 0, 0}, {-9, -1, -3, 0, 0}, {least, most, -3, 0, 0}, {least, least, math.MinInt, 0, 0}, {least, most, math.MinInt, 0, 0}, {least + 1, least, math.MinInt, 0, 0},
		{0, most, math.MaxInt, 0, math.MaxInt}, {least, -1, math.MaxInt, 0, math.MaxInt}, {most - 1, most, math.MaxInt, math.MaxInt - 1, math.MaxInt}, {most, most, math.MaxInt, 0, 0},
	} {
		if i, k := number.Range(x.first, x.last, x.n); i != x.from || k != x.to {
			t.Errorf("Range(%d, %d, %d) = %d, %d", x.first, x.last, x.n, i, k)
		}
	}
}

// rangeByWords goes by the chapter's words, with numbers without bound.
func rangeByWords(first, last int64, n int) (int, int) {
	n = max(n, 0)
	end := big.NewInt(int64(n) - 1)
	from, to := fromEnd(first, n), fromEnd(last, n)
	if from.Sign() < 0 {
		from.SetInt64(0)
	}
	if to.Cmp(end) > 0 {
		to.Set(end)
	}
	if from.Cmp(to) > 0 || from.Cmp(end) > 0 {
		return 0, 0
	}
	return int(from.Int64()), int(to.Int64() + 1)
}

func TestRangeByWords(t *testing.T) {
	for _, n := range sizes() {
		for _, first := range placesNear(n) {
			for _, last := range placesNear(n) {
				i, k := rangeByWords(first, last, n)
				if from, to := number.Range(first, last, n); from != i || to != k {
					t.Errorf("Range(%d, %d, %d) = %d, %d; want %d, %d", first, last, n, from, to, i, k)
				}
			}
		}
	}
}

// P1.4

func TestMilli(t *testing.T) {
	for _, x := range []struct {
		now     int
		n       int64
		seconds bool
		at      int
		fault   api.Errno
	}{
		{5, 2, true, 2005, api.OK}, {5, 2, false, 7, api.OK}, {5, -9, false, 0, api.OK}, {5, -5, false, 0, api.OK}, {5, -4, false, 1, api.OK}, {5, -1, true, 0, api.OK}, {5000, -2, true, 3000, api.OK},
		{0, 0, false, 0, api.OK}, {0, 0, true, 0, api.OK}, {time40, 0, false, time40, api.OK}, {time40, 0, true, time40, api.OK}, {time40 - 1, 1, false, time40, api.OK}, {0, time40, false, time40, api.OK},
		{time40, -time40, false, 0, api.OK}, {time40, -time40, true, 0, api.OK}, {0, -time40, false, 0, api.OK}, {0, -time40, true, 0, api.OK}, {time40, -1, false, time40 - 1, api.OK}, {time40, -1, true, time40 - 1000, api.OK},
		{0, time40 / 1000, true, time40 / 1000 * 1000, api.OK}, {time40 % 1000, time40 / 1000, true, time40, api.OK}, {time40%1000 + 1, time40 / 1000, true, 0, api.ErrRange},
		{0, time40/1000 + 1, true, 0, api.ErrRange}, {1, time40, false, 0, api.ErrRange}, {time40, 1, false, 0, api.ErrRange}, {time40, 1, true, 0, api.ErrRange}, {time40, time40, false, 0, api.ErrRange}, {time40, time40, true, 0, api.ErrRange}, {0, time40, true, 0, api.ErrRange},
		{0, time40 + 1, false, 0, api.ErrOver}, {0, time40 + 1, true, 0, api.ErrOver}, {0, -time40 - 1, false, 0, api.ErrOver}, {0, -time40 - 1, true, 0, api.ErrOver}, {time40, -time40 - 1, false, 0, api.ErrOver},
		{0, math.MaxInt64, true, 0, api.ErrOver}, {0, math.MinInt64, true, 0, api.ErrOver}, {5, math.MaxInt64, false, 0, api.ErrOver}, {5, math.MinInt64, false, 0, api.ErrOver},
		{-1, 0, false, 0, api.ErrArg}, {-1, 1, false, 0, api.ErrArg}, {time40 + 1, 0, false, 0, api.ErrArg}, {time40 + 1, -1, true, 0, api.ErrArg}, {math.MaxInt, 0, true, 0, api.ErrArg}, {math.MinInt, 0, true, 0, api.ErrArg},
		{-1, math.MaxInt64, true, 0, api.ErrArg}, {time40 + 1, time40 + 1, false, 0, api.ErrArg}, {time40 + 1, time40, true, 0, api.ErrArg}, {-1, math.MinInt64, false, 0, api.ErrArg},
	} {
		if at, e := number.Milli(x.now, x.n, x.seconds); at != x.at || e != x.fault {
			t.Errorf("Milli(%d, %d, %t) = %d, %d; want %d, %d", x.now, x.n, x.seconds, at, e, x.at, x.fault)
		}
	}
}

// milliByWords goes by the chapter's words, with numbers without bound.
func milliByWords(now int, n int64, seconds bool) (int, api.Errno) {
	if now < 0 || now > time40 {
		return 0, api.ErrArg
	}
	if n < -time40 || n > time40 {
		return 0, api.ErrOver
	}
	at := big.NewInt(n)
	if seconds {
		at.Mul(at, big.NewInt(1000))
	}
	at.Add(at, big.NewInt(int64(now)))
	if at.Cmp(big.NewInt(time40)) > 0 {
		return 0, api.ErrRange
	}
	if at.Sign() < 0 {
		return 0, api.OK
	}
	return int(at.Int64()), api.OK
}

func TestMilliByWords(t *testing.T) {
	l := append(edges(), mixed(120)...)
	for _, now := range l {
		for _, n := range l {
			for _, seconds := range []bool{false, true} {
				want, fault := milliByWords(int(now), n, seconds)
				if at, e := number.Milli(int(now), n, seconds); at != want || e != fault {
					t.Errorf("Milli(%d, %d, %t) = %d, %d; want %d, %d", now, n, seconds, at, e, want, fault)
				}
			}
		}
	}
}

// P1.5

func TestParseAndTextLeadThereAndBack(t *testing.T) {
	for _, n := range append(edges(), mixed(5000)...) {
		s := number.Text(n)
		m, e := number.Parse(s)
		if m != n || e != api.OK {
			t.Errorf("Parse(Text(%d)) = %d, %d", n, m, e)
		}
		if u := number.Text(m); u != s {
			t.Errorf("Text(Parse(%q)) = %q", s, u)
		}
	}
	for n := int64(-3000); n <= 3000; n++ {
		if m, e := number.Parse(number.Text(n)); m != n || e != api.OK {
			t.Errorf("Parse(Text(%d)) = %d, %d", n, m, e)
		}
	}
}

func TestWhatIsParsedHasNoOtherText(t *testing.T) {
	signs := []string{"-", "+", "0", "1", "2", " "}
	l := []string{"", "922337203685477580", "-922337203685477580"}
	for range 4 {
		longer := []string{}
		for _, s := range l {
			if n, e := number.Parse(s); e == api.OK && number.Text(n) != s {
				t.Errorf("Parse(%q) = %d, with the text %q", s, n, number.Text(n))
			}
			for _, x := range signs {
				longer = append(longer, s+x)
			}
		}
		l = longer
	}
}

// P1.6

func TestPlaceFromEitherEnd(t *testing.T) {
	for _, n := range []int{0, 1, 2, 3, 10, 1 << 16, math.MaxInt} {
		for _, i := range append(placesNear(n), -1, -2, -int64(n)) {
			if i >= 0 || i+int64(n) < 0 { // what lies ahead of the first place would be counted from the end again
				continue
			}
			p, ok := number.Place(i, n)
			q, same := number.Place(int64(n)+i, n)
			if p != q || ok != same || !ok || int64(p) != int64(n)+i {
				t.Errorf("Place(%d, %d) = %d, %t; Place(%d, %d) = %d, %t", i, n, p, ok, int64(n)+i, n, q, same)
			}
		}
	}
}

func TestRangeOfAllFromTheEnd(t *testing.T) {
	for _, n := range []int{0, 1, 2, 3, 10, 1 << 16, 1 << 40, math.MaxInt - 1, math.MaxInt} {
		if i, k := number.Range(-int64(n), -1, n); i != 0 || k != n {
			t.Errorf("Range(-%d, -1, %d) = %d, %d", n, n, i, k)
		}
	}
}
