package lead

import (
	"slices"

	"millpond/api"
)

// waiter is a client that waits till n replicas acknowledged an offset.
type waiter struct {
	client   int
	offset   int
	n        int
	deadline int // 0: none
}

// row are those that wait, in the order in which they came.
type row []waiter

// Wait: a client waits for replicas.
func (l *Lead) Wait(client, offset, n, deadline int) api.Errno {
	switch {
	case !l.isMade():
		return api.ErrNil
	case n < 0 || deadline < 0:
		return api.ErrArg
	case offset < 0 || offset > l.ring.State().Offset:
		return api.ErrRange
	case slices.ContainsFunc(l.row, is(client)):
		return api.ErrWait
	case len(l.row) >= api.MaxWaits:
		return api.ErrMany
	}
	l.row = append(l.row, waiter{client: client, offset: offset, n: n, deadline: deadline})
	return api.OK
}

// Leave: a client waits no more.
func (l *Lead) Leave(client int) bool {
	return l.isMade() && len(l.row.take(is(client))) > 0
}

// Done: who waits no more.
func (l *Lead) Done(now int) []api.Waited {
	if !l.isMade() {
		return nil
	}
	var told []api.Waited
	for _, w := range l.row.take(func(w waiter) bool { return l.isDone(w, now) }) {
		told = append(told, api.Waited{Client: w.client, Count: l.Count(w.offset)})
	}
	return told
}

// isDone tells whether a client need not wait any more.
func (l *Lead) isDone(w waiter, now int) bool {
	return l.Count(w.offset) >= w.n || w.deadline != 0 && w.deadline <= now
}

// is tells of a client whether it is a certain one.
func is(client int) func(waiter) bool {
	return func(w waiter) bool { return w.client == client }
}

// take takes those out of which a closure tells that they go.
func (r *row) take(goes func(waiter) bool) row {
	var taken row
	*r = slices.DeleteFunc(*r, func(w waiter) bool {
		out := goes(w)
		if out {
			taken = append(taken, w)
		}
		return out
	})
	return taken
}
