package work

import (
	"millpond/api"
	"millpond/number"
)

// Fail ends a command with an error: by a panic with its reply, which is caught where the command began.
func Fail(text string) { panic(Error(text)) }

// NumberOf is the number of an argument; it fails, if that is none.
func NumberOf(text string) int64 {
	n, e := number.Parse(text)
	if e != api.OK {
		Fail(Number)
	}
	return n
}

// CountOf is the count of an argument; it fails, if that is none.
func CountOf(text string) int64 {
	n, e := number.Parse(text)
	if e != api.OK || n < 0 {
		Fail(Count)
	}
	return n
}
