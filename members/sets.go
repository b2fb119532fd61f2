package members

import (
	"slices"
	"strings"

	"millpond/api"
)

// checkAll: is each row a set?
func checkAll(l [][]string) api.Errno {
	for _, s := range l {
		if e := Check(s); e != api.OK {
			return e
		}
	}
	return api.OK
}

// setOf is the set of some texts.
func setOf(l []string) []string {
	s := slices.Clone(l) // what is handed in is not put in order
	slices.Sort(s)
	return slices.Compact(s)
}

// merged is what is in one of two sets at least.
func merged(a, b []string) []string {
	l := make([]string, 0, len(a)+len(b))
	for len(a) > 0 && len(b) > 0 {
		switch order := strings.Compare(a[0], b[0]); {
		case order < 0:
			l, a = append(l, a[0]), a[1:]
		case order > 0:
			l, b = append(l, b[0]), b[1:]
		default:
			l, a, b = append(l, a[0]), a[1:], b[1:]
		}
	}
	return append(append(l, a...), b...)
}

// union is what is in one of some sets at least. They are halved, so that many small ones beside a great one don't copy it one by one.
func union(l [][]string) []string {
	switch len(l) {
	case 0:
		return nil
	case 1:
		return l[0]
	}
	half := len(l) / 2
	return merged(union(l[:half]), union(l[half:]))
}

// ofFirst are the members of the first set that are in so many of the others.
func ofFirst(l [][]string, n int) ([]string, api.Errno) {
	if e := checkAll(l); e != api.OK || len(l) == 0 {
		return nil, e
	}
	times := tallyOf(l[0]) // of the first set's members alone, however many the others have
	for _, s := range l[1:] {
		for _, x := range s {
			if _, there := times[x]; there {
				times[x]++
			}
		}
	}
	return copied(kept(l[0], func(x string) bool { return times[x] == n })), api.OK
}

// tallyOf is a tally of some texts, none of which was met yet.
func tallyOf(l []string) map[string]int {
	times := make(map[string]int, len(l))
	for _, x := range l {
		times[x] = 0
	}
	return times
}

// kept are the members that stay.
func kept(s []string, stays func(x string) bool) []string {
	var l []string
	for _, x := range s {
		if stays(x) {
			l = append(l, x)
		}
	}
	return l
}

// copied is a row in memory of its own, its texts too.
func copied(l []string) []string {
	own := make([]string, len(l))
	for i, x := range l {
		own[i] = strings.Clone(x)
	}
	return own
}
