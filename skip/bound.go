package skip

import (
	"strings"

	"millpond/api"
	"millpond/number"
)

// Read is the bound of a text.
func Read(text string) (api.Bound, api.Errno) {
	switch text {
	case "-inf":
		return api.Bound{Inf: -1}, api.OK
	case "+inf", "inf":
		return api.Bound{Inf: 1}, api.OK
	}
	text, open := strings.CutPrefix(text, "(")
	n, e := number.Parse(text)
	if e != api.OK {
		return api.Bound{}, api.ErrBound
	}
	return api.Bound{N: n, Open: open}, api.OK
}

// In tells whether a score is in a range.
func In(n int64, low, high api.Bound) bool { return above(n, low) && below(n, high) }

// above tells whether a score is not below a range that begins at low.
func above(n int64, low api.Bound) bool {
	switch low.Inf {
	case -1:
		return true
	case 1:
		return false
	}
	return n > low.N || !low.Open && n == low.N
}

// below tells whether a score is not above a range that ends at high.
func below(n int64, high api.Bound) bool {
	switch high.Inf {
	case -1:
		return false
	case 1:
		return true
	}
	return n < high.N || !high.Open && n == high.N
}
