package ring

import (
	"strings"

	"millpond/api"
)

// digits are those of an ID's text, each at its value's place.
const digits = "0123456789abcdef"

// Text is an ID's text.
func Text(id uint64) string {
	text := make([]byte, 0, 16)
	for shift := 60; shift >= 0; shift -= 4 {
		text = append(text, digits[id>>shift&15])
	}
	return string(text)
}

// Read is the ID of a text.
func Read(s string) (uint64, api.Errno) {
	if len(s) != 16 {
		return 0, api.ErrID
	}
	var id uint64
	for i := range len(s) {
		digit := strings.IndexByte(digits, s[i])
		if digit < 0 {
			return 0, api.ErrID
		}
		id = id<<4 | uint64(digit)
	}
	if id == 0 {
		return 0, api.ErrID
	}
	return id, api.OK
}
