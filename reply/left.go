package reply

import (
	"bytes"

	"millpond/api"
	"millpond/number"
)

// left are the bytes that were not read yet.
type left []byte

// fault is why no reply can be read: reading panics with it when what is left begins at its place.
type fault api.Errno

const (
	wrong = fault(api.ErrReply)
	short = fault(api.ErrShort)
)

// errnoOf is the error of what reading panicked with, OK, if it did not.
func errnoOf(caught any) api.Errno {
	f, _ := caught.(fault)
	return api.Errno(f)
}

// next is the first byte; it is not passed over.
func (l *left) next() byte {
	if len(*l) == 0 {
		panic(short)
	}
	return (*l)[0]
}

// take passes over n bytes.
func (l *left) take(n int) []byte {
	b := (*l)[:min(n, len(*l))]
	*l = (*l)[len(b):]
	if len(b) < n {
		panic(short)
	}
	return b
}

// end passes over a line's end.
func (l *left) end() {
	for i := range len(lineEnd) {
		if l.next() != lineEnd[i] {
			panic(wrong)
		}
		l.take(1)
	}
}

// line passes over a text of one line, and its end.
func (l *left) line() string {
	n := min(len(*l), api.MaxBulk)
	if i := bytes.IndexAny((*l)[:n], lineEnd); i >= 0 {
		n = i
	}
	text := l.take(n)
	l.end()
	return string(text)
}

// number passes over the text of a number from least, which is below 0, to most, and the line's end. A number that goes on gets further from 0: so a text begins one just if it is one already, or the sign.
func (l *left) number(least, most int64) int64 {
	text := *l
	if l.next() == '-' {
		l.take(1)
	}
	for {
		l.next()
		n, e := number.Parse(string(text[:len(text)-len(*l)+1]))
		if e != api.OK || n < least || n > most {
			panic(wrong)
		}
		l.take(1)
		if l.next() == lineEnd[0] {
			l.end()
			return n
		}
	}
}
