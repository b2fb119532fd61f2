package resp

// fault is what a client is told of bytes that are no request: reading panics with the first one.
type fault string

// The faults; one more tells the byte that it came on.
const (
	bigCount    fault = "Protocol error: too big mbulk count string"
	wrongCount  fault = "Protocol error: invalid multibulk length"
	bigLength   fault = "Protocol error: too big bulk count string"
	wrongLength fault = "Protocol error: invalid bulk length"
	bigLine     fault = "Protocol error: too big inline request"
	unbalanced  fault = "Protocol error: unbalanced quotes in request"
)

// unexpected is the fault of a byte where a bulk had to begin.
func unexpected(c byte) fault {
	if c < 32 || c > 126 {
		c = '.'
	}
	return "Protocol error: expected '$', got '" + fault([]byte{c}) + "'"
}

// textOf is the text of what reading panicked with, empty, if it did not.
func textOf(caught any) string {
	f, _ := caught.(fault)
	return string(f)
}
