package resp_test

import (
	"math/big"
	"regexp"
	"strings"

	"millpond/api"
)

// model reads requests a byte at a time, so that it can't know how the bytes were cut.
type model struct {
	next     func(byte) // what the next byte is for
	held     []byte     // the bytes of a count, a length or a line, from the first one on
	row      []string
	bulks    int // how many of the row are still to come
	size     int // how many bytes the bulk has
	requests [][]string
	fault    string
	fed      int
	passed   int
}

func newModel() *model {
	m := &model{}
	m.next = m.first
	return m
}

// feed tells how many bytes were looked at: those behind a fault are not.
func (m *model) feed(b []byte) {
	for _, c := range b {
		if m.fault != "" {
			return
		}
		m.fed++
		m.next(c)
	}
}

func (m *model) first(c byte) {
	m.held, m.row = nil, nil
	if c == '*' {
		m.held = []byte{c}
		m.next = m.count
		return
	}
	m.next = m.line
	m.line(c)
}

func (m *model) whole() {
	m.passed = m.fed
	if len(m.row) > 0 {
		m.requests = append(m.requests, m.row)
	}
	m.next = m.first
}

func (m *model) hold(c, end byte, fault string) bool {
	m.held = append(m.held, c)
	if len(m.held) > 65536 {
		m.fault = fault
		return false
	}
	return c == end
}

var wholeText = regexp.MustCompile(`\A(0|-?[1-9][0-9]*)\z`)

// heldNumber is the number between a mark and byte 13, nil, if it is none of 64 bits.
func (m *model) heldNumber() *big.Int {
	s := string(m.held[1 : len(m.held)-1])
	if !wholeText.MatchString(s) {
		return nil
	}
	n, _ := new(big.Int).SetString(s, 10)
	if !n.IsInt64() {
		return nil
	}
	return n
}

func (m *model) count(c byte) {
	if m.hold(c, 13, "Protocol error: too big mbulk count string") {
		m.next = m.behindCount
	}
}

func (m *model) behindCount(byte) {
	n := m.heldNumber()
	if n == nil || n.Cmp(big.NewInt(api.MaxArgs)) > 0 {
		m.fault = "Protocol error: invalid multibulk length"
		return
	}
	if n.Sign() <= 0 {
		m.whole()
		return
	}
	m.bulks = int(n.Int64())
	m.next = m.mark
}

func (m *model) mark(c byte) {
	if c != '$' {
		if c < 32 || c > 126 {
			c = '.'
		}
		m.fault = "Protocol error: expected '$', got '" + string(rune(c)) + "'"
		return
	}
	m.held = []byte{c}
	m.next = m.length
}

func (m *model) length(c byte) {
	if m.hold(c, 13, "Protocol error: too big bulk count string") {
		m.next = m.behindLength
	}
}

func (m *model) behindLength(byte) {
	n := m.heldNumber()
	if n == nil || n.Sign() < 0 || n.Cmp(big.NewInt(api.MaxBulk)) > 0 {
		m.fault = "Protocol error: invalid bulk length"
		return
	}
	m.size = int(n.Int64())
	m.held = nil
	m.next = m.bulk
}

func (m *model) bulk(c byte) {
	m.held = append(m.held, c)
	if len(m.held) < m.size+2 {
		return
	}
	m.row = append(m.row, string(m.held[:m.size]))
	m.bulks--
	m.next = m.mark
	if m.bulks == 0 {
		m.whole()
	}
}

func (m *model) line(c byte) {
	if !m.hold(c, 10, "Protocol error: too big inline request") {
		return
	}
	words, ok := modelWords(strings.TrimSuffix(string(m.held[:len(m.held)-1]), "\r"))
	if !ok {
		m.fault = "Protocol error: unbalanced quotes in request"
		return
	}
	if len(words) > api.MaxArgs {
		m.fault = "Protocol error: invalid multibulk length"
		return
	}
	m.row = words
	m.whole()
}

const (
	blanks = "\t\n\v\f\r "
	digits = "0123456789abcdef"
)

func modelWords(line string) ([]string, bool) {
	var l []string
	for {
		line = strings.TrimLeft(line, blanks)
		if line == "" {
			return l, true
		}
		end := strings.IndexAny(line, blanks+`"'`)
		if end < 0 {
			return append(l, line), true
		}
		word := line[:end]
		if line[end] == '"' || line[end] == '\'' {
			part, behind, ok := modelQuoted(line[end], line[end+1:])
			if !ok || behind != "" && !strings.Contains(blanks, behind[:1]) {
				return nil, false
			}
			l, line = append(l, word+part), behind
			continue
		}
		l, line = append(l, word), line[end:]
	}
}

// modelQuoted is a quoted part and what stands behind its end.
func modelQuoted(quote byte, s string) (string, string, bool) {
	part := ""
	for s != "" {
		n := 1
		switch {
		case s[0] == quote:
			return part, s[1:], true
		case quote == '\'' && strings.HasPrefix(s, `\'`):
			part, n = part+"'", 2
		case quote == '"' && s == `\`:
			return "", "", false
		case quote == '"' && len(s) >= 4 && s[:2] == `\x` && hexAt(s, 2) >= 0 && hexAt(s, 3) >= 0:
			part, n = part+string([]byte{byte(hexAt(s, 2)*16 + hexAt(s, 3))}), 4
		case quote == '"' && s[0] == '\\':
			c := s[1:2]
			if i := strings.Index("nrtba", c); i >= 0 {
				c = "\n\r\t\b\a"[i : i+1]
			}
			part, n = part+c, 2
		default:
			part += s[:1]
		}
		s = s[n:]
	}
	return "", "", false
}

func hexAt(s string, i int) int { return strings.Index(digits, strings.ToLower(s[i:i+1])) }
