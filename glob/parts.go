package glob

import (
	"iter"

	"millpond/api"
)

// parts are those of a pattern, in order.
func parts(p string) iter.Seq[api.Glob] {
	return func(yield func(api.Glob) bool) {
		in := left(p)
		for in != "" && yield(in.part()) {
		}
	}
}

// left is what was not read yet of a pattern.
type left string

// take passes over the first byte; there must be one.
func (l *left) take() byte {
	c := (*l)[0]
	*l = (*l)[1:]
	return c
}

// part passes over the first part; there must be one.
func (l *left) part() api.Glob {
	c := l.take()
	switch c {
	case '*':
		return api.Glob{Kind: api.GlobAny}
	case '?':
		return api.Glob{Kind: api.GlobOne}
	case '[':
		return l.class()
	case '\\':
		if *l != "" {
			c = l.take()
		}
		fallthrough
	default:
		return api.Glob{Kind: api.GlobByte, C: c}
	}
}

// class passes over a class behind its [.
func (l *left) class() api.Glob {
	g := api.Glob{Kind: api.GlobClass}
	if *l != "" && (*l)[0] == '^' {
		l.take()
		g.Not = true
	}
	for *l != "" {
		c := l.take()
		if c == ']' {
			break
		}
		g.Ranges = append(g.Ranges, l.span(c))
	}
	return g
}

// span passes over what makes one range with the byte ahead of it.
func (l *left) span(c byte) api.Span {
	to := c
	switch {
	case c == '\\' && *l != "":
		c = l.take()
		to = c
	case len(*l) >= 2 && (*l)[0] == '-':
		l.take()
		to = l.take()
	}
	return api.Span{From: min(c, to), To: max(c, to)}
}
