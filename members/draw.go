package members

import "slices"

// next is the draw behind a draw.
func next(draw uint64) uint64 { return draw*6364136223846793005 + 1442695040888963407 }

// place is the one among n that a draw tells.
func place(draw uint64, n int) int { return int(draw % uint64(n)) }

// repeated are n members, each of which may come again.
func repeated(s []string, n int, draw uint64) []string {
	l := make([]string, n)
	for k := range n {
		l[k] = s[place(draw, len(s))]
		draw = next(draw)
	}
	return l
}

// dealt are n members, each once.
func dealt(s []string, n int, draw uint64) []string {
	l := slices.Clone(s)
	for k := range n {
		at := k + place(draw, len(l)-k)
		l[k], l[at] = l[at], l[k]
		draw = next(draw)
	}
	return l[:n]
}
