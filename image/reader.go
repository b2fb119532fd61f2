package image

import (
	"strings"

	"millpond/api"
	"millpond/number"
)

// readLine is the entry whose line a text is.
func readLine(line string) (api.Entry, bool) {
	parts := strings.SplitN(line, " ", 4)
	if len(parts) < 4 {
		return api.Entry{}, false
	}
	key, isKey := unhex(parts[1])
	at, isTime := readTime(parts[2])
	v, isValue := readValue(kindOf(parts[0]), parts[3])
	e := api.Entry{Key: key, V: v, At: at}
	return e, isKey && isTime && isValue && mayStand(e)
}

// kindOf is the kind of a word; there is none: 0.
func kindOf(word string) api.Kind {
	for kind, w := range words {
		if w == word {
			return api.Kind(kind)
		}
	}
	return 0
}

// readTime is the end whose word a text is. A number below 0 is none, also if it stands for Never elsewhere.
func readTime(word string) (int, bool) {
	if word == never {
		return api.Never, true
	}
	n, e := number.Parse(word)
	return int(n), e == api.OK && n >= 0
}

// readValue is the value whose words a text is; it need not be one that may be.
func readValue(kind api.Kind, text string) (v api.Value, ok bool) {
	v.Kind = kind
	switch kind {
	case api.KString:
		v.S, ok = unhex(text)
	case api.KList, api.KSet:
		v.L, ok = readItems(text, unhex)
	case api.KZset:
		v.Z, ok = readItems(text, readMember)
	case api.KHash:
		v.H, ok = readItems(text, readField)
	}
	return v, ok
}

// readItems are the things whose words a text has, read one by one. No more are read than a value may have.
func readItems[T any](text string, read func(word string) (T, bool)) ([]T, bool) {
	var l []T
	for word := range strings.SplitSeq(text, " ") {
		x, ok := read(word)
		if !ok || len(l) == api.MaxLen {
			return nil, false
		}
		l = append(l, x)
	}
	return l, true
}

// readMember is the member of a sorted set whose word a text is.
func readMember(word string) (api.Scored, bool) {
	left, right, _ := strings.Cut(word, ":") // without it there is no number: the empty text is none
	m, ok := unhex(left)
	n, e := number.Parse(right)
	return api.Scored{M: m, N: n}, ok && e == api.OK
}

// readField is the field whose word a text is.
func readField(word string) (api.Field, bool) {
	left, right, _ := strings.Cut(word, "=") // without it there is no value: the empty text is no hex
	f, isName := unhex(left)
	v, isValue := unhex(right)
	return api.Field{F: f, V: v}, isName && isValue
}

// unhex is the text whose hex a word is.
func unhex(word string) (string, bool) {
	if word == none {
		return "", true
	}
	if word == "" || len(word)%2 != 0 {
		return "", false
	}
	var b strings.Builder
	b.Grow(len(word) / 2)
	for i := 0; i < len(word); i += 2 {
		high, ok := digit(word[i])
		low, also := digit(word[i+1])
		if !ok || !also {
			return "", false
		}
		b.WriteByte(high<<4 | low)
	}
	return b.String(), true
}

// digit is the number of a digit of base 16.
func digit(c byte) (byte, bool) {
	switch {
	case c >= '0' && c <= '9':
		return c - '0', true
	case c >= 'a' && c <= 'f':
		return c - 'a' + 10, true
	default:
		return 0, false
	}
}
