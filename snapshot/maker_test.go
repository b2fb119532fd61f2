package snapshot_test

import (
	"math"
	"math/rand/v2"

	"millpond/api"
	"millpond/image"
)

// maker makes histories and images by chance, always the same ones.
type maker struct{ *rand.Rand }

func newMaker(seed uint64) maker { return maker{rand.New(rand.NewPCG(20, seed))} }

// text is a text of at most n bytes.
func (m maker) text(n int) string { return string(drawn(m.Rand, m.IntN(n+1))) }

// score is a number, often one of which the bytes are alike, or at an end.
func (m maker) score() int64 {
	switch m.IntN(6) {
	case 0:
		return int64(m.Uint64())
	case 1:
		return []int64{math.MinInt64, math.MaxInt64, -1, 0, 1, 1 << 32, -1 << 32}[m.IntN(7)]
	default:
		return int64(m.IntN(9)) - 4
	}
}

func (m maker) at() int {
	switch m.IntN(3) {
	case 0:
		return m.IntN(api.MaxTime + 1)
	case 1:
		return []int{0, 1, api.MaxTime}[m.IntN(3)]
	default:
		return api.Never
	}
}

// value is a value of at most n parts, in any order; none comes twice.
func (m maker) value(n, long int) api.Value {
	kind := api.Kind(1 + m.IntN(5))
	v := api.Value{Kind: kind}
	if kind == api.KString {
		v.S = m.text(long)
		return v
	}
	seen := map[string]bool{}
	for range 1 + m.IntN(n) {
		s := m.text(long)
		switch again := seen[s]; {
		case kind == api.KList, kind == api.KSet && !again:
			v.L = append(v.L, s)
		case kind == api.KZset && !again:
			v.Z = append(v.Z, sc(s, m.score()))
		case kind == api.KHash && !again:
			v.H = append(v.H, fi(s, m.text(long)))
		}
		seen[s] = true
	}
	return v
}

// image is an image of at most n entries, of at most parts parts, with texts of at most long bytes.
func (m maker) image(n, parts, long int) []entry {
	seen := map[string]bool{}
	var l []entry
	for range m.IntN(n + 1) {
		if key := m.text(long); !seen[key] {
			seen[key] = true
			l = append(l, ends(key, m.value(parts, long), m.at()))
		}
	}
	made, e := image.Canon(l...)
	if e != api.OK {
		panic(e)
	}
	return made
}

func (m maker) history() api.History {
	h := api.History{ID: max(1, m.Uint64()>>m.IntN(64)), Offset: m.IntN(api.MaxOffset+1) >> m.IntN(51)}
	if m.IntN(2) == 0 {
		h.Second, h.Fork = m.Uint64(), m.IntN(api.MaxOffset)
	}
	return h
}

// bent is a body with some bytes other ones, left out or put in, or with pieces in other places.
func (m maker) bent(s string) string {
	for range 1 + m.IntN(3) {
		i := m.IntN(len(s) + 1)
		j := i + m.IntN(min(len(s)-i, 20)+1)
		switch m.IntN(7) {
		case 0:
			s = s[:i] + s[j:]
		case 1:
			s = s[:i] + s[i:j] + s[i:]
		case 2:
			s = s[:i] + string(drawn(m.Rand, j-i)) + s[j:]
		case 3:
			s = s[:i] + string(drawn(m.Rand, m.IntN(9))) + s[i:]
		case 4:
			s = s[:i] + little(uint64(m.IntN(5)), 4) + s[min(len(s), i+4):]
		case 5:
			s = s[:i] + little(uint64(m.IntN(5)-2), 8) + s[min(len(s), i+8):]
		case 6:
			s = s[:i] + string(rune(m.IntN(9))) + s[min(len(s), i+1):]
		}
	}
	return s
}
