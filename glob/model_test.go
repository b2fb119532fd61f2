package glob_test

import (
	"math/rand/v2"
	"regexp"
	"slices"
	"strings"

	"millpond/api"
)

// The model takes a pattern apart by regular expressions, one a part, one a thing in a class: a byte is a rune of the same number there.
var (
	modelPart = regexp.MustCompile(`(?s)\A(?:[*?]|\[(\^?)((?:\\.|[^\]]-.|[^\]])*)(\]?)|\\.|.)`)
	modelItem = regexp.MustCompile(`(?s)\\.|.-.|.`)
)

func asRunes(s string) string {
	l := make([]rune, len(s))
	for i := range len(s) {
		l[i] = rune(s[i])
	}
	return string(l)
}

func asBytes(s string) []byte {
	var b []byte
	for _, r := range s {
		b = append(b, byte(r))
	}
	return b
}

// modelParse are a pattern's parts, and whether it ends within a class.
func modelParse(p string) (l []api.Glob, within bool) {
	left := asRunes(p)
	for left != "" {
		m := modelPart.FindStringSubmatch(left)
		left = left[len(m[0]):]
		within = m[0][0] == '[' && m[3] == ""
		switch {
		case m[0] == "*":
			l = append(l, api.Glob{Kind: api.GlobAny})
		case m[0] == "?":
			l = append(l, api.Glob{Kind: api.GlobOne})
		case m[0][0] == '[':
			l = append(l, api.Glob{Kind: api.GlobClass, Not: m[1] == "^", Ranges: modelRanges(m[2])})
		default:
			b := asBytes(m[0])
			l = append(l, api.Glob{Kind: api.GlobByte, C: b[len(b)-1]})
		}
	}
	return l, within
}

func modelRanges(class string) []api.Span {
	var l []api.Span
	for _, item := range modelItem.FindAllString(class, -1) {
		b := asBytes(item)
		from, to := b[len(b)-1], b[len(b)-1]
		if len(b) == 3 {
			from = b[0]
		}
		if from > to {
			from, to = to, from
		}
		l = append(l, api.Span{From: from, To: to})
	}
	return l
}

// model is a pattern: of each part which bytes it matches, nil of a *.
type model []*[256]bool

func modelOf(p string, fold bool) model {
	parts, _ := modelParse(p)
	var m model
	for _, g := range parts {
		if g.Kind == api.GlobAny {
			m = append(m, nil)
			continue
		}
		has := &[256]bool{}
		for c := range has {
			has[c] = modelHas(g, byte(c), fold)
		}
		m = append(m, has)
	}
	return m
}

func modelHas(g api.Glob, c byte, fold bool) bool {
	if g.Kind == api.GlobOne {
		return true
	}
	small := func(b byte) byte { return b }
	if fold {
		small = smallLetter
	}
	if g.Kind == api.GlobByte {
		return small(g.C) == small(c)
	}
	found := slices.ContainsFunc(g.Ranges, func(r api.Span) bool {
		l := []byte{small(r.From), small(c), small(r.To)}
		return slices.IsSorted(l) || l[0] >= l[1] && l[1] >= l[2]
	})
	return found != g.Not
}

const (
	smallLetters = "abcdefghijklmnopqrstuvwxyz"
	greatLetters = "ABCDEFGHIJKLMNOPQRSTUVWXYZ"
)

func smallLetter(c byte) byte {
	if i := strings.IndexByte(greatLetters, c); i >= 0 {
		return smallLetters[i]
	}
	return c
}

// matches goes through the parts; it holds up to which places of the text those so far match.
func (m model) matches(s string) bool {
	ends := make([]bool, len(s)+1)
	ends[0] = true
	for _, has := range m {
		next := make([]bool, len(s)+1)
		for i := range next {
			if has == nil {
				next[i] = ends[i] || i > 0 && next[i-1]
			} else {
				next[i] = i > 0 && ends[i-1] && has[s[i-1]]
			}
		}
		ends = next
	}
	return ends[len(s)]
}

// allOf are all texts of a length up to most, over some bytes; the shorter ones first.
func allOf(over string, most int) []string {
	l := []string{""}
	for from := 0; most > 0; most-- {
		to := len(l)
		for ; from < to; from++ {
			for i := range len(over) {
				l = append(l, l[from]+over[i:i+1])
			}
		}
	}
	return l
}

// special are the bytes that have a meaning of their own.
const special = `*?[]^-\`

// maker makes patterns and texts of all sorts, the same ones at each run.
type maker struct{ *rand.Rand }

func newMaker(seed uint64) maker { return maker{rand.New(rand.NewPCG(seed, 4))} }

func (m maker) text(over string, most int) string {
	b := make([]byte, m.IntN(most+1))
	for i := range b {
		b[i] = over[m.IntN(len(over))]
	}
	return string(b)
}

// bytes are of all sorts, but often such as have a meaning.
func (m maker) bytes(most int) string {
	b := []byte(m.text(special+"abAB", most))
	for i := range b {
		if m.IntN(3) == 0 {
			b[i] = byte(m.IntN(256))
		}
	}
	return string(b)
}
