package follow_test

import (
	"testing"

	"millpond/api"
	"millpond/follow"
)

// P21.1, and the times of all calls

func TestNew(t *testing.T) {
	settings := []int{least, -1, 0, 1, 2, 1 << 20, 1<<20 + 1, greatest}
	times := []int{least, -1, 0, 1, api.MaxTime - 1, api.MaxTime, api.MaxTime + 1, greatest}
	for _, retry := range settings {
		for _, ack := range settings {
			for _, now := range times {
				want := api.OK
				switch {
				case retry < 1 || retry > 1048576 || ack < 1 || ack > 1048576:
					want = api.ErrFollow
				case now < 0 || now > 1099511627776:
					want = api.ErrTime
				}
				c := api.FollowConf{Retry: retry, Ack: ack}
				f, e := follow.New(c, now)
				if e != want || (f == nil) != (e != api.OK) {
					t.Fatalf("New(%+v, %d) = %v, %v, want %v", c, now, f, e, want)
				}
				if e == api.OK {
					stands(t, "a new one", f, api.FIdle, 0, now)
				}
			}
		}
	}
}

func TestErrorsHaveTheirNumbers(t *testing.T) {
	_, settings := follow.New(api.FollowConf{}, -1)
	_, time := follow.New(conf, -1)
	_, state := made(t, conf, 0).Take(0, nil)
	if settings != 210 || time != 211 || state != 212 {
		t.Errorf("errors are %d, %d, %d", settings, time, state)
	}
}

// call is a call at a time, and the error that it has in a state, if the time may be.
type call struct {
	name string
	do   func(f *follow.Follow, now int) (zero bool, e api.Errno)
	want func(s api.FollowState) api.Errno
}

func upWith(id uint64, offset int) func(*follow.Follow, int) (bool, api.Errno) {
	return func(f *follow.Follow, now int) (bool, api.Errno) {
		b, e := f.Up(now, id, offset)
		return b == nil, e
	}
}

func take(s string) func(*follow.Follow, int) (bool, api.Errno) {
	return func(f *follow.Follow, now int) (bool, api.Errno) {
		took, e := f.Take(now, []byte(s))
		return alike(took, api.Took{}), e
	}
}

// calls are some of each method, in all ways in which one may go.
func calls() []call {
	linked := func(s api.FollowState) api.Errno {
		if s == api.FIdle {
			return api.ErrState
		}
		return api.OK
	}
	unlinked := func(e api.Errno) func(api.FollowState) api.Errno {
		return func(s api.FollowState) api.Errno {
			if s != api.FIdle {
				return api.ErrState
			}
			return e
		}
	}
	return []call{
		{"Up", upWith(1, 3), unlinked(api.OK)},
		{"Up without an ID", upWith(0, 0), unlinked(api.OK)},
		{"Up at no offset", upWith(1, -1), unlinked(api.ErrArg)},
		{"Up without an ID at no offset", upWith(0, api.MaxOffset+1), unlinked(api.ErrArg)},
		{"Down", func(f *follow.Follow, now int) (bool, api.Errno) { return true, f.Down(now) }, linked},
		{"Take of nothing", take(""), linked},
		{"Take of some bytes", take("+CONTINUE "), linked},
		{"Take that cuts", take("nothing that a primary says\r\n"), linked},
		{"Tick", func(f *follow.Follow, now int) (bool, api.Errno) {
			b, up, e := f.Tick(now)
			return b == nil && !up, e
		}, func(api.FollowState) api.Errno { return api.OK }},
	}
}

// refusedAt holds that a call with an error answers nothing else and changes nothing: the greatest time neither.
func refusedAt(t *testing.T, c call, state api.FollowState, now int, want api.Errno) {
	t.Helper()
	f, offset := in(t, state)
	timer := timerOf(f)
	if zero, e := c.do(f, now); e != want || !zero {
		t.Fatalf("%s in state %d at %d: zero %t, %v, want %v", c.name, state, now, zero, e, want)
	}
	stands(t, c.name+" with an error", f, state, offset, timer)
	if _, _, e := f.Tick(1000); e != api.OK {
		t.Fatalf("%s in state %d at %d with an error: Tick at 1000 = %v", c.name, state, now, e)
	}
}

// doneAt holds that a call without an error moves the greatest time.
func doneAt(t *testing.T, c call, state api.FollowState, now int) {
	t.Helper()
	f, _ := in(t, state)
	if _, e := c.do(f, now); e != api.OK {
		t.Fatalf("%s in state %d at %d = %v", c.name, state, now, e)
	}
	for _, early := range []int{now - 1, 0} {
		for _, c := range calls() {
			if zero, e := c.do(f, early); e != api.ErrTime || !zero {
				t.Fatalf("%s at %d behind a call at %d = %v", c.name, early, now, e)
			}
		}
	}
	if _, _, e := f.Tick(now); e != api.OK {
		t.Fatalf("Tick at %d, as %s was = %v", now, c.name, e)
	}
}

func TestTimes(t *testing.T) {
	for _, state := range states {
		for _, c := range calls() {
			for _, now := range []int{least, -1, 0, 1, 999, api.MaxTime + 1, api.MaxTime + 1000, greatest} {
				refusedAt(t, c, state, now, api.ErrTime)
			}
			for _, now := range []int{1000, 1001, 5000, api.MaxTime - 1, api.MaxTime} {
				if want := c.want(state); want != api.OK {
					refusedAt(t, c, state, now, want)
				} else {
					doneAt(t, c, state, now)
				}
			}
		}
	}
}

// The time of New counts, too, also the least and the greatest one.
func TestTimesBehindNew(t *testing.T) {
	for _, began := range []int{0, 1, 500, api.MaxTime} {
		for _, c := range calls() {
			f := made(t, conf, began)
			for _, now := range []int{least, -1, began - 1, api.MaxTime + 1, greatest} {
				if zero, e := c.do(f, now); e != api.ErrTime || !zero {
					t.Fatalf("%s at %d behind New at %d = %v", c.name, now, began, e)
				}
			}
			stands(t, "times that may not be", f, api.FIdle, 0, began)
			if _, e := c.do(f, began); e != c.want(api.FIdle) {
				t.Fatalf("%s at %d, as New was = %v", c.name, began, e)
			}
		}
	}
}
