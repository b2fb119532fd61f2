package reply_test

import (
	"math/rand/v2"
	"strings"

	"millpond/api"
)

func simple(s string) api.Reply { return api.Reply{Kind: api.RSimple, S: s} }

func failure(s string) api.Reply { return api.Reply{Kind: api.RError, S: s} }

func integer(n int64) api.Reply { return api.Reply{Kind: api.RInt, N: n} }

func bulk(s string) api.Reply { return api.Reply{Kind: api.RBulk, S: s} }

func array(l ...api.Reply) api.Reply { return api.Reply{Kind: api.RArray, L: l} }

var (
	nilBulk  = api.Reply{Kind: api.RNil}
	nilArray = api.Reply{Kind: api.RNilArray}
)

// nested are so many arrays in one another around a reply.
func nested(n int, r api.Reply) api.Reply {
	for range n {
		r = array(r)
	}
	return r
}

// maker makes replies and bytes of all sorts, the same ones at each run.
type maker struct{ *rand.Rand }

func newMaker(seed uint64) maker { return maker{rand.New(rand.NewPCG(seed, 3))} }

// text has few bytes, often such as stand in replies.
func (m maker) text() string {
	b := make([]byte, m.IntN(9))
	for i := range b {
		b[i] = byte(m.IntN(256))
		if m.IntN(3) == 0 {
			b[i] = "\r\n+-:$*01"[m.IntN(9)]
		}
	}
	return string(b)
}

// reply is one that may be, with so many arrays in one another at most.
func (m maker) reply(room int) api.Reply {
	oneLine := strings.NewReplacer("\r", "", "\n", "")
	switch m.IntN(9) {
	case 0:
		return simple(oneLine.Replace(m.text()))
	case 1:
		return failure(oneLine.Replace(m.text()))
	case 2:
		return integer(int64(m.Uint64()) >> m.IntN(64))
	case 3:
		return bulk(m.text())
	case 4:
		return nilBulk
	case 5:
		return nilArray
	}
	if room == 0 {
		return nilArray
	}
	r := array()
	for range m.IntN(5) {
		r.L = append(r.L, m.reply(room-1))
	}
	return r
}

func (m maker) replies(n int) []api.Reply {
	var l []api.Reply
	for range n {
		l = append(l, m.reply(8))
	}
	return l
}

// spoilt are bytes of which some are others, gone, or more.
func (m maker) spoilt(b []byte) []byte {
	l := append([]byte{}, b...)
	for range m.IntN(4) {
		i := m.IntN(len(l) + 1)
		more := []byte(m.text())
		l = append(l[:i:i], append(more, l[min(len(l), i+m.IntN(4)):]...)...)
	}
	return l
}
