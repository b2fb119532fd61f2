// Package number is layer 1: numbers of 64 bits as texts, and places from either end.
package number

import (
	"math"
	"math/bits"
	"strconv"

	"millpond/api"
)

// Parse is the number of a text.
func Parse(s string) (int64, api.Errno) {
	if s == "0" {
		return 0, api.OK
	}
	below := false
	n := int64(0) // held below 0: there it has room for one number more
	for i, r := range s {
		if i == 0 && r == '-' {
			below = true
			continue
		}
		d, ok := digit(r)
		if !ok || n == 0 && d == 0 || n < (math.MinInt64+d)/10 {
			return 0, api.ErrNumber
		}
		n = n*10 - d
	}
	if n == 0 || !below && n == math.MinInt64 {
		return 0, api.ErrNumber
	}
	if below {
		return n, api.OK
	}
	return -n, api.OK
}

// digit is the number of a decimal digit.
func digit(r rune) (int64, bool) {
	if r < '0' || r > '9' {
		return 0, false
	}
	return int64(r - '0'), true
}

// Text is a number's text.
func Text(n int64) string { return strconv.FormatInt(n, 10) }

// Sum is the sum of some.
func Sum(l ...int64) (int64, api.Errno) {
	n := int64(0)
	for _, m := range l {
		if m > 0 && n > math.MaxInt64-m || m < 0 && n < math.MinInt64-m {
			return 0, api.ErrOver
		}
		n += m
	}
	return n, api.OK
}

// Times is a product.
func Times(a, b int64) (int64, api.Errno) {
	high, low := bits.Mul64(size(a), size(b))
	below := (a < 0) != (b < 0)
	most := uint64(math.MaxInt64)
	if below {
		most++
	}
	if high != 0 || low > most {
		return 0, api.ErrOver
	}
	if below {
		return -int64(low), api.OK
	}
	return int64(low), api.OK
}

// size is a number without its sign: that of the least one has no place in an int64.
func size(n int64) uint64 {
	if n < 0 {
		return -uint64(n)
	}
	return uint64(n)
}

// Place is a place among n, from the end, if it is below 0.
func Place(i int64, n int) (int, bool) {
	most := int64(max(n, 0))
	i = fromFront(i, most)
	if i < 0 || i >= most {
		return 0, false
	}
	return int(i), true
}

// Range are the places from one to another one, both among n: the first, and the one behind the last.
func Range(first, last int64, n int) (int, int) {
	most := int64(max(n, 0))
	first = max(fromFront(first, most), 0)
	last = min(fromFront(last, most), most-1)
	if first > last {
		return 0, 0
	}
	return int(first), int(last) + 1
}

// fromFront is a place counted from the front; most is 0 at least, so the sum can't go round.
func fromFront(i, most int64) int64 {
	if i < 0 {
		return i + most
	}
	return i
}

// Milli is a time that many seconds, or milliseconds, behind another one.
func Milli(now int, n int64, seconds bool) (int, api.Errno) {
	if now < 0 || now > api.MaxTime {
		return 0, api.ErrArg
	}
	if n < -api.MaxTime || n > api.MaxTime {
		return 0, api.ErrOver
	}
	if seconds {
		n *= 1000 // at most 2^50: it can't go round
	}
	at := int64(now) + n
	if at > api.MaxTime {
		return 0, api.ErrRange
	}
	return int(max(at, 0)), api.OK
}
