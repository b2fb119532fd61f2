package exec

import (
	"millpond/api"
	"millpond/command"
	"millpond/reply"
	"millpond/space"
	"millpond/work"
)

// Apply: a stream, done.
func Apply(s *space.Space, l ...[]string) (int, api.Errno) {
	if !work.IsMade(s) {
		return 0, api.ErrNil
	}
	for i, args := range l {
		if !follow(s, args) {
			return i, api.ErrStream
		}
	}
	return len(l), api.OK
}

// follow does one command of a stream; false: it may not stand in one.
func follow(s *space.Space, args []string) bool {
	spec, _, _ := command.Check(args...)
	if !spec.Write {
		return false
	}
	r, _ := Do(s, api.Call{Role: api.RoleStream, Args: args})
	return r.Kind != api.RError
}

// Bytes: a stream's bytes.
func Bytes(l ...[]string) ([]byte, api.Errno) {
	var b []byte
	for _, args := range l {
		one, e := reply.Command(args...)
		if e != api.OK {
			return nil, e
		}
		b = append(b, one...)
	}
	return b, api.OK
}
