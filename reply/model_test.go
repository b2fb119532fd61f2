package reply_test

import (
	"math/big"
	"regexp"
	"strconv"

	"millpond/api"
)

// model reads one reply a byte at a time: of each byte it knows whether a reply's bytes go on so.
type model struct {
	next  func(byte) bool // what the next byte may be
	held  string          // a number's text, as far as it is there
	bytes int             // how many bytes a text has, or still has to come
	open  []int           // how many replies each array that has begun still waits for
	whole bool
}

func newModel() *model {
	m := &model{}
	m.next = m.mark
	return m
}

// modelPlace is what Decode has to tell of bytes beside the reply.
func modelPlace(b []byte) (int, api.Errno) {
	m := newModel()
	for i, c := range b {
		if !m.next(c) {
			return i, api.ErrReply
		}
		if m.whole {
			return i + 1, api.OK
		}
	}
	return len(b), api.ErrShort
}

func (m *model) mark(c byte) bool {
	switch c {
	case '+', '-':
		m.bytes = 0
		m.next = m.line
	case ':':
		m.next = m.number(beginsInt, func(int) { m.ended() })
	case '$':
		m.next = m.number(beginsLength, m.bulk)
	case '*':
		begins := beginsCount
		if len(m.open) == 8 {
			begins = beginsNil
		}
		m.next = m.number(begins, m.array)
	default:
		return false
	}
	return true
}

func (m *model) line(c byte) bool {
	if c == 13 {
		m.next = m.last(m.ended)
		return true
	}
	m.bytes++
	return c != 10 && m.bytes <= 65536
}

func (m *model) last(then func()) func(byte) bool {
	return func(c byte) bool {
		if c == 10 {
			then()
		}
		return c == 10
	}
}

func (m *model) number(begins func(string) bool, then func(int)) func(byte) bool {
	m.held = ""
	return func(c byte) bool {
		if c == 13 {
			n, err := strconv.Atoi(m.held)
			m.next = m.last(func() { then(n) })
			return err == nil
		}
		m.held += string([]byte{c})
		return begins(m.held)
	}
}

func (m *model) bulk(n int) {
	if n < 0 {
		m.ended()
		return
	}
	m.bytes = n
	m.next = m.text
}

func (m *model) text(c byte) bool {
	if m.bytes > 0 {
		m.bytes--
		return true
	}
	m.next = m.last(m.ended)
	return c == 13
}

func (m *model) array(n int) {
	if n <= 0 {
		m.ended()
		return
	}
	m.open = append(m.open, n)
	m.next = m.mark
}

// ended: a reply is whole, and so is each array that waited for nothing but it.
func (m *model) ended() {
	m.next = m.mark
	for i := len(m.open) - 1; i >= 0; i-- {
		m.open[i]--
		if m.open[i] > 0 {
			return
		}
		m.open = m.open[:i]
	}
	m.whole = true
}

var wholeText = regexp.MustCompile(`\A(0|-?[1-9][0-9]*)\z`)

func beginsInt(s string) bool {
	n, _ := new(big.Int).SetString(s, 10)
	return s == "-" || wholeText.MatchString(s) && n.IsInt64()
}

var lengths, counts = beginnings(65536), beginnings(131072)

// beginnings are those of the texts of -1 to most.
func beginnings(most int) map[string]int {
	begun := map[string]int{}
	for n := -1; n <= most; n++ {
		s := strconv.Itoa(n)
		for i := range s {
			begun[s[:i+1]]++
		}
	}
	return begun
}

func beginsLength(s string) bool { return lengths[s] > 0 }

func beginsCount(s string) bool { return counts[s] > 0 }

func beginsNil(s string) bool { return s == "-" || s == "-1" }
