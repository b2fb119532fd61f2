package work_test

import (
	"testing"

	"millpond/api"
	"millpond/work"
)

// caught is the error with which something fails.
func caught(do func()) (text string) {
	defer func() {
		if r, ok := recover().(api.Reply); ok && r.Kind == api.RError {
			text = r.S
		}
	}()
	do()
	return ""
}

func TestFail(t *testing.T) {
	if text := caught(func() { work.Fail(work.Large) }); text != "ERR collection is too large" {
		t.Errorf("Fail tells %q", text)
	}
}

func TestNumbersAndCounts(t *testing.T) {
	for _, x := range []struct {
		text          string
		n             int64
		number, count string
	}{
		{"0", 0, "", ""}, {"1", 1, "", ""}, {"9223372036854775807", 1<<63 - 1, "", ""}, {"-1", -1, "", work.Count}, {"-9223372036854775808", -1 << 63, "", work.Count},
		{"", 0, work.Number, work.Count}, {"x", 0, work.Number, work.Count}, {"01", 0, work.Number, work.Count}, {"-0", 0, work.Number, work.Count}, {"+1", 0, work.Number, work.Count}, {"1.5", 0, work.Number, work.Count}, {"9223372036854775808", 0, work.Number, work.Count},
	} {
		var n, m int64
		number, count := caught(func() { n = work.NumberOf(x.text) }), caught(func() { m = work.CountOf(x.text) })
		if number != x.number || count != x.count || n != x.n || count == "" && m != x.n {
			t.Errorf("of %q: NumberOf = %d, %q; CountOf = %d, %q", x.text, n, number, m, count)
		}
	}
}
