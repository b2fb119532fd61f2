package resp

import (
	"bytes"

	"millpond/api"
	"millpond/number"
)

// left are the bytes that were not read yet.
type left []byte

// take passes over n bytes, if they are there.
func (l *left) take(n int) ([]byte, bool) {
	if len(*l) < n {
		return nil, false
	}
	b := (*l)[:n]
	*l = (*l)[n:]
	return b, true
}

// upTo passes over the bytes up to an end, and the end; they are told without it. It stands near, or is waited for while it may yet come there.
func (l *left) upTo(end byte, big fault) ([]byte, bool) {
	near := (*l)[:min(len(*l), api.MaxInline)]
	i := bytes.IndexByte(near, end)
	if i < 0 && len(*l) > api.MaxInline {
		panic(big)
	}
	if i < 0 {
		return nil, false
	}
	*l = (*l)[i+1:]
	return near[:i], true
}

// count passes over a mark, a number and the two bytes of its end.
func (l *left) count(least, most int64, big, wrong fault) (int64, bool) {
	b, ok := l.upTo('\r', big)
	if !ok {
		return 0, false
	}
	if _, ok = l.take(1); !ok {
		return 0, false
	}
	n, e := number.Parse(string(b[1:]))
	if e != api.OK || n < least || n > most {
		panic(wrong)
	}
	return n, true
}

// passBlanks passes over the blanks ahead of a word.
func (l *left) passBlanks() {
	for len(*l) > 0 && isBlank((*l)[0]) {
		*l = (*l)[1:]
	}
}

// word passes over a line's word, which has one byte or a quote at least.
func (l *left) word() []byte {
	var w []byte
	for len(*l) > 0 && !isBlank((*l)[0]) {
		switch c := l.next(); c {
		case '"':
			return l.doubleQuoted(w)
		case '\'':
			return l.singleQuoted(w)
		default:
			w = append(w, c)
		}
	}
	return w
}

// doubleQuoted is a word with the part behind it that ends a word with ".
func (l *left) doubleQuoted(w []byte) []byte {
	for {
		switch c := l.next(); c {
		case '"':
			return l.ended(w)
		case '\\':
			w = append(w, l.escaped())
		default:
			w = append(w, c)
		}
	}
}

// singleQuoted is a word with the part behind it that ends a word with '.
func (l *left) singleQuoted(w []byte) []byte {
	for {
		c := l.next()
		if c == '\'' {
			return l.ended(w)
		}
		if c == '\\' && len(*l) > 0 && (*l)[0] == '\'' {
			c = l.next()
		}
		w = append(w, c)
	}
}

// next passes over the next byte of a line, which must have one: just a quote that does not end goes on there.
func (l *left) next() byte {
	b, ok := l.take(1)
	if !ok {
		panic(unbalanced)
	}
	return b[0]
}

// ended is a word whose quote ended: a blank or the line's end must stand behind it.
func (l *left) ended(w []byte) []byte {
	if len(*l) > 0 && !isBlank((*l)[0]) {
		panic(unbalanced)
	}
	return w
}

// escaped is the byte that stands behind a \ in a part in ".
func (l *left) escaped() byte {
	switch c := l.next(); c {
	case 'n':
		return '\n'
	case 'r':
		return '\r'
	case 't':
		return '\t'
	case 'b':
		return '\b'
	case 'a':
		return '\a'
	case 'x':
		return l.hexOr(c)
	default:
		return c
	}
}

// hexOr is the byte of two digits of base 16, or the given one, if there are none.
func (l *left) hexOr(c byte) byte {
	if len(*l) < 2 {
		return c
	}
	high, ok := hexDigit((*l)[0])
	low, also := hexDigit((*l)[1])
	if !ok || !also {
		return c
	}
	*l = (*l)[2:]
	return high<<4 | low
}

// hexDigit is the number of a digit of base 16.
func hexDigit(c byte) (byte, bool) {
	switch {
	case c >= '0' && c <= '9':
		return c - '0', true
	case c >= 'a' && c <= 'f':
		return c - 'a' + 10, true
	case c >= 'A' && c <= 'F':
		return c - 'A' + 10, true
	default:
		return 0, false
	}
}

// isBlank tells whether a byte stands between words.
func isBlank(c byte) bool { return c == ' ' || c >= '\t' && c <= '\r' }
