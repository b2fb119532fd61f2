package follow

import (
	"millpond/api"
	"millpond/snapshot"
)

// Take takes bytes.
func (f *Follow) Take(now int, b []byte) (t api.Took, e api.Errno) {
	if e := f.refusesIdle(now); e != api.OK {
		return api.Took{}, e
	}
	f.now = now
	defer func() {
		if _, ok := recover().(cut); ok { // what was done ahead of it stands
			f.unlink()
			t.Drop = true
		}
	}()
	f.coming.put(b)
	all := len(f.coming.left)
	for f.step(&t) {
	}
	if len(f.coming.left) < all { // else there is nothing to let go of, and to copy it each time would take too long
		f.coming.letGo()
	}
	return t, api.OK
}

// step does what can be done next, and tells whether there was such.
func (f *Follow) step(t *api.Took) bool {
	switch f.state {
	case api.FAsking:
		return f.begin(t)
	case api.FLoading:
		return f.load(t)
	default:
		return f.goOn(t)
	}
}

// begin takes the line by which the primary answers.
func (f *Follow) begin(t *api.Took) bool {
	h, whole, ok := f.coming.answer()
	switch {
	case !ok:
		return false
	case whole:
		f.state, f.offset, f.promised = api.FLoading, 0, h
		t.Empty = true
	default:
		f.stream(f.offset)
		t.Continue, t.H = true, h
	}
	return true
}

// load takes a snapshot, which must be of what the line promised.
func (f *Follow) load(t *api.Took) bool {
	b, ok := f.coming.snapshot()
	if !ok {
		return false
	}
	h, img, e := snapshot.Decode(b)
	must(e == api.OK && h == f.promised)
	f.stream(h.Offset)
	t.Load, t.H, t.Img = true, h, img
	return true
}

// stream: from now on the stream comes, from an offset on.
func (f *Follow) stream(offset int) {
	f.state, f.offset = api.FStreaming, offset
	f.setTimer(0)
}

// goOn takes a command of the stream.
func (f *Follow) goOn(t *api.Took) bool {
	args, b, ok := f.coming.command()
	if !ok {
		return false
	}
	must(len(b) <= api.MaxOffset-f.offset)
	f.offset += len(b)
	t.Commands, t.Bytes = append(t.Commands, args), append(t.Bytes, b...)
	return true
}
