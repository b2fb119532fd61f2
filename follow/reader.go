package follow

import (
	"strings"

	"millpond/api"
	"millpond/number"
	"millpond/reply"
	"millpond/ring"
)

// reader reads what comes on a link from the bytes that are left.
type reader struct {
	left
	passed int // how many bytes of the next command's count and of whole items of it were gone through
	items  int // how many items of it come behind them
}

// answer passes over a line, if it is whole: whose stream goes on, or from where on, if a whole store comes first.
func (r *reader) answer() (h api.History, whole, ok bool) {
	line, ok := r.line()
	if !ok {
		return api.History{}, false, false
	}
	r.take(len(line) + len(lineEnd))
	if id, ok := strings.CutPrefix(line, "+CONTINUE "); ok {
		return api.History{ID: readID(id)}, false, true
	}
	id, offset, _ := strings.Cut(behind("+FULLRESYNC ", line), " ")
	return api.History{ID: readID(id), Offset: readCount(offset, api.MaxOffset)}, true, true
}

// snapshot passes over a snapshot and the line that tells its length, if both are whole.
func (r *reader) snapshot() ([]byte, bool) {
	line, ok := r.line()
	if !ok {
		return nil, false
	}
	n := readCount(behind("$", line), api.MaxStore)
	ahead := len(line) + len(lineEnd)
	if len(r.left) < ahead+n {
		return nil, false
	}
	r.take(ahead)
	return r.take(n), true
}

// command passes over a command, if it is whole: its texts, and its bytes.
func (r *reader) command() ([]string, []byte, bool) {
	if len(r.left) == 0 {
		return nil, nil, false
	}
	must(r.left[0] == '*')
	if r.isShort() {
		return nil, nil, false
	}
	row, n, e := reply.Decode(r.left)
	if e == api.ErrShort {
		return nil, nil, false
	}
	must(e == api.OK)
	r.passed, r.items = 0, 0
	return texts(row.L), r.take(n), true
}

// isShort tells whether a command can be known not to be whole by its new bytes alone: to decode all of a long one again with each piece that comes would take too long.
func (r *reader) isShort() bool {
	if r.passed == 0 {
		r.passCount()
	}
	for ; r.items > 0; r.items-- {
		rest := r.left[r.passed:]
		if len(rest) > 0 && rest[0] == '*' { // what may stand within it hangs on what is around it
			return false
		}
		_, n, e := reply.Decode(rest)
		if e != api.OK {
			return e == api.ErrShort
		}
		r.passed += n
	}
	return false
}

// passCount goes through how many items the command has, if that is whole and may be.
func (r *reader) passCount() {
	line, ok := r.line()
	if !ok {
		return
	}
	n, e := number.Parse(line[1:])
	if e == api.OK && n >= 1 && n <= api.MaxItems {
		r.passed, r.items = len(line)+len(lineEnd), int(n)
	}
}

// texts are those of a command's items.
func texts(l []api.Reply) []string {
	must(len(l) >= 1 && len(l) <= api.MaxArgs)
	args := make([]string, len(l))
	for i, item := range l {
		must(item.Kind == api.RBulk)
		args[i] = item.S
	}
	return args
}

// behind is what stands behind a beginning in a line.
func behind(beginning, line string) string {
	rest, ok := strings.CutPrefix(line, beginning)
	must(ok)
	return rest
}

// readID is the ID of a text.
func readID(s string) uint64 {
	id, e := ring.Read(s)
	must(e == api.OK)
	return id
}

// readCount is the number, from 0 to most, of a text.
func readCount(s string, most int64) int {
	n, e := number.Parse(s)
	must(e == api.OK && n >= 0 && n <= most)
	return int(n)
}
