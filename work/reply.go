package work

import (
	"strings"

	"millpond/api"
)

// The errors that several commands tell.
const (
	Wrong  = "WRONGTYPE Operation against a key holding the wrong kind of value"
	Number = "ERR value is not an integer or out of range"
	Syntax = "ERR syntax error"
	Count  = "ERR value is out of range, must be positive"
	NoKey  = "ERR no such key"
	Index  = "ERR index out of range"
	Over   = "ERR increment or decrement would overflow"
	Long   = "ERR string exceeds maximum allowed size"
	Large  = "ERR collection is too large"
	Full   = "ERR store is full"
)

// Error is a reply that tells an error.
func Error(text string) api.Reply { return api.Reply{Kind: api.RError, S: strings.Clone(text)} }

// Simple is a word's reply.
func Simple(word string) api.Reply { return api.Reply{Kind: api.RSimple, S: strings.Clone(word)} }

// OK is the reply that all is well.
func OK() api.Reply { return Simple("OK") }

// Int is a number's reply.
func Int(n int64) api.Reply { return api.Reply{Kind: api.RInt, N: n} }

// Bulk is a text's reply, if there is one, else nil. The text is to be one that no other answer has.
func Bulk(s string, there bool) api.Reply {
	if !there {
		return api.Reply{Kind: api.RNil}
	}
	return api.Reply{Kind: api.RBulk, S: s}
}

// Array is the reply of several ones.
func Array(l []api.Reply) api.Reply { return api.Reply{Kind: api.RArray, L: l} }
