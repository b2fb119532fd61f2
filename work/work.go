// Package work is what holds for all commands that are done on a space: which calls are a group's own, how keys are looked at, what is told, how replies and errors read.
package work

import (
	"strings"

	"millpond/api"
	"millpond/command"
	"millpond/space"
)

// Work is what goes on by a call.
type Work struct {
	api.Call
	Name  string // the command's, in small letters
	Space *space.Space
	Told  [][]string // so far, for the stream
}

// New begins the work of a call; false: the call is none of a group's.
func New(s *space.Space, c api.Call, g api.Group) (*Work, bool) {
	spec, _, known := command.Check(c.Args...)
	if !known || spec.Group != g || !IsMade(s) || !Fits(c) {
		return nil, false
	}
	return &Work{Call: c, Name: spec.Name, Space: s}, true
}

// Look is a key's value, if the call sees the key; what that tells is told.
func (w *Work) Look(key string) (api.Value, bool) {
	v, there, told := w.Space.Get(w.Call, key)
	w.Told = append(w.Told, told...)
	return v, there
}

// End is when a key ends that was looked at. One that is not there is new, also where an entry that is over for the call stands still.
func (w *Work) End(key string, there bool) int {
	if !there {
		return api.Never
	}
	e, _ := w.Space.Look(key)
	return e.At
}

// Tell tells a command for the stream.
func (w *Work) Tell(words ...string) {
	own := make([]string, len(words))
	for i, word := range words {
		own[i] = strings.Clone(word)
	}
	w.Told = append(w.Told, own)
}

// TellAsIs tells the call's own command.
func (w *Work) TellAsIs() {
	w.Tell(append([]string{strings.ToUpper(w.Name)}, w.Args[1:]...)...)
}

// Arguments is the error of arguments of which there may not be so many, though the command's arity lets them pass.
func (w *Work) Arguments() api.Reply {
	return Error("ERR wrong number of arguments for '" + w.Name + "' command")
}

// IsMade tells whether a space is one that its package made. A value of no kind may not be put: asked so, no space changes.
func IsMade(s *space.Space) bool { return s.Put("", api.Value{}, api.Never) != api.ErrNil }

// Fits tells whether a call keeps to the limits of arguments and of times.
func Fits(c api.Call) bool {
	for _, a := range c.Args {
		if len(a) > api.MaxBulk {
			return false
		}
	}
	return len(c.Args) <= api.MaxArgs && c.Now >= 0 && c.Now <= api.MaxTime
}
