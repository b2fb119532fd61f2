package work_test

import (
	"slices"
	"strings"
	"testing"

	"millpond/api"
	"millpond/space"
	"millpond/work"
)

func put(t *testing.T, s *space.Space, key, v string, at int) {
	t.Helper()
	if e := s.Put(key, api.Value{Kind: api.KString, S: v}, at); e != api.OK {
		t.Fatalf("Put = %v", e)
	}
}

func TestNew(t *testing.T) {
	s, long := space.New(), strings.Repeat("x", api.MaxBulk)
	put(t, s, "k", "v", 3)
	good := api.Call{Role: api.RolePrimary, Now: 5, Args: []string{"GeT", "k"}}
	w, ok := work.New(s, good, api.GString)
	if !ok || w.Name != "get" || w.Space != s || w.Now != 5 || w.Role != api.RolePrimary || w.Args[1] != "k" || len(w.Told) > 0 {
		t.Errorf("New = %+v, %t", w, ok)
	}
	with := func(now int, args ...string) api.Call {
		return api.Call{Role: api.RolePrimary, Now: now, Args: args}
	}
	for _, x := range []struct {
		name string
		s    *space.Space
		c    api.Call
		g    api.Group
		ok   bool
	}{
		{"a long key", s, with(5, "get", long), api.GString, true},
		{"the first time", s, with(0, "get", "k"), api.GString, true},
		{"the last time", s, with(api.MaxTime, "get", "k"), api.GString, true},
		{"as many arguments as may be", s, with(5, append([]string{"mget"}, slices.Repeat([]string{"k"}, api.MaxArgs-1)...)...), api.GString, true},
		{"a list's command", s, with(5, "LLEN", "k"), api.GList, true},
		{"no space", nil, good, api.GString, false},
		{"a space that nobody made", new(space.Space), good, api.GString, false},
		{"another group", s, good, api.GList, false},
		{"a list's command for strings", s, with(5, "llen", "k"), api.GString, false},
		{"no arguments", s, with(5), api.GString, false},
		{"too few arguments", s, with(5, "get"), api.GString, false},
		{"too many arguments", s, with(5, append([]string{"mget"}, slices.Repeat([]string{"k"}, api.MaxArgs)...)...), api.GString, false},
		{"too long a key", s, with(5, "get", long+"x"), api.GString, false},
		{"a time below 0", s, with(-1, "get", "k"), api.GString, false},
		{"a time too late", s, with(api.MaxTime+1, "get", "k"), api.GString, false},
	} {
		if w, ok := work.New(x.s, x.c, x.g); ok != x.ok || (w != nil) != x.ok {
			t.Errorf("New with %s = %v, %t", x.name, w != nil, ok)
		}
	}
	if e, there := s.Look("k"); !there || e.At != 3 || s.Len() != 1 {
		t.Errorf("behind New the space has %d entries, k: %v, %t", s.Len(), e, there)
	}
}

// What a package asks that does not begin a group's work itself.
func TestIsMadeAndFits(t *testing.T) {
	s := space.New()
	put(t, s, "k", "v", 3)
	if !work.IsMade(s) || work.IsMade(nil) || work.IsMade(new(space.Space)) || s.Len() != 1 {
		t.Errorf("IsMade = %t, %t, %t; then the space has %d entries", work.IsMade(s), work.IsMade(nil), work.IsMade(new(space.Space)), s.Len())
	}
	long := strings.Repeat("x", api.MaxBulk)
	for _, x := range []struct {
		now  int
		args []string
		fits bool
	}{
		{0, nil, true}, {5, []string{"any", long}, true}, {api.MaxTime, slices.Repeat([]string{""}, api.MaxArgs), true},
		{-1, nil, false}, {api.MaxTime + 1, nil, false}, {5, []string{long + "x"}, false}, {5, []string{"any", long + "x"}, false}, {5, slices.Repeat([]string{""}, api.MaxArgs+1), false},
	} {
		if fits := work.Fits(api.Call{Now: x.now, Args: x.args}); fits != x.fits {
			t.Errorf("Fits of %d arguments at %d = %t", len(x.args), x.now, fits)
		}
	}
}

func TestLookEndAndTell(t *testing.T) {
	for _, x := range []struct {
		role  api.Role
		key   string
		there bool
		end   int
		told  [][]string
		left  int
	}{
		{api.RolePrimary, "ends", true, 6, nil, 3},
		{api.RolePrimary, "stays", true, api.Never, nil, 3},
		{api.RolePrimary, "none", false, api.Never, nil, 3},
		{api.RolePrimary, "over", false, api.Never, [][]string{{"DEL", "over"}}, 2},
		{api.RoleReader, "over", false, api.Never, nil, 3},
		{api.RoleStream, "over", true, 5, nil, 3},
	} {
		s := space.New()
		put(t, s, "ends", "v", 6)
		put(t, s, "stays", "v", api.Never)
		put(t, s, "over", "v", 5)
		w, _ := work.New(s, api.Call{Role: x.role, Now: 5, Args: []string{"get", x.key}}, api.GString)
		v, there := w.Look(x.key)
		if there != x.there || (v.S == "v") != there || w.End(x.key, there) != x.end || s.Len() != x.left {
			t.Errorf("Look of %s by role %d = %v, %t; it ends at %d, %d are left", x.key, x.role, v, there, w.End(x.key, there), s.Len())
		}
		command := []string{"SET", x.key, "w"}
		w.Tell(command...)
		command[2] = "changed"
		if want := append(x.told, []string{"SET", x.key, "w"}); !slices.EqualFunc(w.Told, want, slices.Equal) {
			t.Errorf("told is %q; want %q", w.Told, want)
		}
	}
}

// The call's own command, its name in great letters, in memory of its own; and the error of its arguments.
func TestTellAsIsAndArguments(t *testing.T) {
	args := []string{"lReM", "Key", "-1", "v"}
	w, _ := work.New(space.New(), api.Call{Role: api.RolePrimary, Args: args}, api.GList)
	w.Tell("DEL", "Key")
	w.TellAsIs()
	args[0], args[3] = "changed", "changed"
	if want := [][]string{{"DEL", "Key"}, {"LREM", "Key", "-1", "v"}}; !slices.EqualFunc(w.Told, want, slices.Equal) {
		t.Errorf("told is %q; want %q", w.Told, want)
	}
	if r := w.Arguments(); r.Kind != api.RError || r.S != "ERR wrong number of arguments for 'lrem' command" {
		t.Errorf("Arguments = %+v", r)
	}
}

func TestReplies(t *testing.T) {
	same := func(a, b api.Reply) bool {
		return a.Kind == b.Kind && a.S == b.S && a.N == b.N && slices.EqualFunc(a.L, b.L, func(a, b api.Reply) bool { return a.Kind == b.Kind && a.S == b.S && a.N == b.N })
	}
	for _, x := range []struct{ got, want api.Reply }{
		{work.OK(), api.Reply{Kind: api.RSimple, S: "OK"}},
		{work.Simple("none"), api.Reply{Kind: api.RSimple, S: "none"}},
		{work.Int(-5), api.Reply{Kind: api.RInt, N: -5}},
		{work.Bulk("a", true), api.Reply{Kind: api.RBulk, S: "a"}},
		{work.Bulk("", true), api.Reply{Kind: api.RBulk}},
		{work.Bulk("a", false), api.Reply{Kind: api.RNil}},
		{work.Array([]api.Reply{work.Int(5)}), api.Reply{Kind: api.RArray, L: []api.Reply{{Kind: api.RInt, N: 5}}}},
		{work.Error(work.Wrong), api.Reply{Kind: api.RError, S: "WRONGTYPE Operation against a key holding the wrong kind of value"}},
		{work.Error(work.Number), api.Reply{Kind: api.RError, S: "ERR value is not an integer or out of range"}},
		{work.Error(work.Syntax), api.Reply{Kind: api.RError, S: "ERR syntax error"}},
		{work.Error(work.Count), api.Reply{Kind: api.RError, S: "ERR value is out of range, must be positive"}},
		{work.Error(work.NoKey), api.Reply{Kind: api.RError, S: "ERR no such key"}},
		{work.Error(work.Index), api.Reply{Kind: api.RError, S: "ERR index out of range"}},
		{work.Error(work.Large), api.Reply{Kind: api.RError, S: "ERR collection is too large"}},
		{work.Error(work.Over), api.Reply{Kind: api.RError, S: "ERR increment or decrement would overflow"}},
		{work.Error(work.Long), api.Reply{Kind: api.RError, S: "ERR string exceeds maximum allowed size"}},
		{work.Error(work.Full), api.Reply{Kind: api.RError, S: "ERR store is full"}},
	} {
		if !same(x.got, x.want) {
			t.Errorf("%+v; want %+v", x.got, x.want)
		}
	}
}
