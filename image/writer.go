package image

import (
	"strings"

	"millpond/api"
	"millpond/number"
)

// words are the kinds' words.
var words = [...]string{
	api.KString: "string",
	api.KList:   "list",
	api.KSet:    "set",
	api.KZset:   "zset",
	api.KHash:   "hash",
}

// never is the time of an entry that does not end, none the hex of no bytes.
const (
	never = "-"
	none  = "."
)

// writer writes an image's text, as long as there is room for it.
type writer struct {
	strings.Builder
	full bool // something was left out
}

// line writes the line of an entry that may be.
func (w *writer) line(e api.Entry) {
	w.add(words[e.V.Kind])
	w.hex(" ", e.Key)
	w.add(" " + timeText(e.At))
	w.value(e.V)
	w.add("\n")
}

// value writes the words of a value that may be.
func (w *writer) value(v api.Value) {
	switch v.Kind {
	case api.KString:
		w.hex(" ", v.S)
	case api.KList, api.KSet:
		for _, x := range v.L {
			w.hex(" ", x)
		}
	case api.KZset:
		for _, m := range v.Z {
			w.hex(" ", m.M)
			w.add(":" + number.Text(m.N))
		}
	case api.KHash:
		for _, f := range v.H {
			w.hex(" ", f.F)
			w.hex("=", f.V)
		}
	}
}

// hex writes what stands ahead of a text's hex, and the hex.
func (w *writer) hex(ahead, s string) {
	w.add(ahead)
	if s == "" {
		w.add(none)
	}
	if !w.hasRoom(2 * len(s)) {
		return
	}
	const digits = "0123456789abcdef"
	for i := range len(s) {
		w.WriteByte(digits[s[i]>>4])
		w.WriteByte(digits[s[i]&15])
	}
}

// add writes some bytes.
func (w *writer) add(s string) {
	if w.hasRoom(len(s)) {
		w.WriteString(s)
	}
}

// hasRoom tells whether there is room for n bytes more; where there was none once, there is none any more.
func (w *writer) hasRoom(n int) bool {
	w.full = w.full || w.Len()+n > api.MaxStore
	return !w.full
}

// timeText is the word of an entry's end.
func timeText(at int) string {
	if at == api.Never {
		return never
	}
	return number.Text(int64(at))
}
