package reply

import (
	"math"
	"strings"

	"millpond/api"
)

// reader reads a reply from the bytes that are left.
type reader struct {
	left
	within int // how many arrays stand around what is read
}

// whole is the next reply; with an error what is left begins at its place.
func (in *reader) whole() (r api.Reply, e api.Errno) {
	defer func() { e = errnoOf(recover()) }()
	return in.reply(), api.OK
}

// reply reads a reply of any kind.
func (in *reader) reply() api.Reply {
	mark := in.next()
	if strings.IndexByte("+-:$*", mark) < 0 {
		panic(wrong)
	}
	in.take(1)
	switch mark {
	case '+':
		return api.Reply{Kind: api.RSimple, S: in.line()}
	case '-':
		return api.Reply{Kind: api.RError, S: in.line()}
	case ':':
		return api.Reply{Kind: api.RInt, N: in.number(math.MinInt64, math.MaxInt64)}
	case '$':
		return in.bulk()
	default:
		return in.array()
	}
}

// bulk reads a bulk, or a nil one, behind its mark.
func (in *reader) bulk() api.Reply {
	n := in.number(-1, api.MaxBulk)
	if n < 0 {
		return api.Reply{Kind: api.RNil}
	}
	text := in.take(int(n))
	in.end()
	return api.Reply{Kind: api.RBulk, S: string(text)}
}

// array reads an array, or a nil one, behind its mark.
func (in *reader) array() api.Reply {
	most := int64(api.MaxItems)
	if in.within == api.MaxNest {
		most = -1
	}
	n := in.number(-1, most)
	if n < 0 {
		return api.Reply{Kind: api.RNilArray}
	}
	in.within++
	r := api.Reply{Kind: api.RArray}
	for range n { // room for all of them is not made ahead: the count may tell more than there are
		r.L = append(r.L, in.reply())
	}
	in.within--
	return r
}
