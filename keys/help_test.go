package keys_test

import (
	"slices"
	"strconv"
	"strings"
	"testing"

	"millpond/api"
	"millpond/image"
	"millpond/keys"
	"millpond/space"
)

// Short ways to write values, entries, calls and replies

var (
	most = strings.Repeat("x", api.MaxBulk)
	over = most + "x"
)

// roles are all roles, and some numbers that are none of api's.
var roles = []api.Role{api.RolePrimary, api.RoleReader, api.RoleStream, 0, 4, -1}

func str(s string) api.Value { return api.Value{Kind: api.KString, S: s} }

func stay(k string, v api.Value) api.Entry { return api.Entry{Key: k, V: v, At: api.Never} }

func ends(k string, v api.Value, at int) api.Entry { return api.Entry{Key: k, V: v, At: at} }

// values are one of each kind but strings, by their names.
var values = map[string]api.Value{
	"list": {Kind: api.KList, L: []string{"b", "a"}},
	"set":  {Kind: api.KSet, L: []string{"a", "b"}},
	"zset": {Kind: api.KZset, Z: []api.Scored{{M: "b", N: 1}, {M: "a", N: 2}}},
	"hash": {Kind: api.KHash, H: []api.Field{{F: "a", V: "b"}}},
}

// entries are entries by their texts: `k=v`, or, of another kind, `k:list`; each that ends with `@` and the time behind it.
func entries(text string) []api.Entry {
	var l []api.Entry
	for _, word := range strings.Fields(text) {
		what, at, hasEnd := strings.Cut(word, "@")
		key, s, isText := strings.Cut(what, "=")
		e := stay(key, str(s))
		if !isText {
			key, kind, _ := strings.Cut(what, ":")
			e = stay(key, values[kind])
		}
		if hasEnd {
			e.At, _ = strconv.Atoi(at)
		}
		l = append(l, e)
	}
	return l
}

// words are the arguments of a text; two quotes are the empty one.
func words(text string) []string {
	l := strings.Fields(text)
	for i, word := range l {
		if word == "''" {
			l[i] = ""
		}
	}
	return l
}

// told are commands of a text, between which a `|` stands.
func told(text string) [][]string {
	var l [][]string
	for _, one := range strings.Split(text, "|") {
		if args := words(one); len(args) > 0 {
			l = append(l, args)
		}
	}
	return l
}

// show is a reply as a text: `none`, `nil`, `+OK`, `-` and an error's text, `:5`, `$bulk`, `[$a nil]`.
func show(r api.Reply) string {
	switch r.Kind {
	case api.RSimple:
		return "+" + r.S + strange(r.N != 0 || len(r.L) > 0)
	case api.RError:
		return "-" + r.S + strange(r.N != 0 || len(r.L) > 0)
	case api.RInt:
		return ":" + strconv.FormatInt(r.N, 10) + strange(r.S != "" || len(r.L) > 0)
	case api.RBulk:
		return "$" + r.S + strange(r.N != 0 || len(r.L) > 0)
	case api.RArray:
		l := make([]string, len(r.L))
		for i := range l {
			l[i] = show(r.L[i])
		}
		return "[" + strings.Join(l, " ") + "]" + strange(r.S != "" || r.N != 0)
	case api.RNil:
		return "nil" + strange(r.S != "" || r.N != 0 || len(r.L) > 0)
	case 0:
		return "none" + strange(r.S != "" || r.N != 0 || len(r.L) > 0)
	}
	return "a reply of kind " + strconv.Itoa(int(r.Kind))
}

// strange marks a reply that has more than its kind says.
func strange(is bool) string {
	if is {
		return " and more"
	}
	return ""
}

// reply is a reply's text, in which an error may have its name: `-NOKEY`.
func reply(text, command string) string {
	if name, isError := strings.CutPrefix(text, "-"); isError && errors[name] != "" {
		return "-" + strings.ReplaceAll(errors[name], "X", modelLower(command))
	}
	return text
}

// short is a text that a failing test can tell.
func short(s string) string {
	if len(s) > 300 {
		return s[:300] + ".."
	}
	return s
}

// wrote is an image as a text for a failing test.
func wrote(l []api.Entry) string {
	var b strings.Builder
	for i, e := range l {
		if i == 20 {
			return b.String() + " .."
		}
		b.WriteString(" " + strconv.Quote(short(e.Key)) + "=" + strconv.Quote(short(e.V.S)))
		if e.V.Kind != api.KString {
			b.WriteString("(kind " + strconv.Itoa(int(e.V.Kind)) + ")")
		}
		b.WriteString("@" + strconv.Itoa(e.At))
	}
	return b.String()
}

// ask is a call's text for a failing test.
func ask(c api.Call) string {
	return short(strings.Join(c.Args, " ")) + " by role " + strconv.Itoa(int(c.Role)) + " at " + strconv.Itoa(c.Now)
}

func sameTold(a, b [][]string) bool { return slices.EqualFunc(a, b, slices.Equal) }

func wroteTold(l [][]string) string {
	var b strings.Builder
	for _, command := range l {
		b.WriteString(strings.Join(command, " ") + " | ")
	}
	return short(strings.TrimSuffix(b.String(), " | "))
}

// load is a space of entries.
func load(t *testing.T, l []api.Entry) *space.Space {
	t.Helper()
	img, wrong := image.Canon(l...)
	s, e := space.Load(img)
	if wrong != api.OK || e != api.OK {
		t.Fatalf("Load of %s = %v, %v", wrote(l), wrong, e)
	}
	return s
}

// holds: has a space just these entries?
func holds(t *testing.T, done string, s *space.Space, want []api.Entry) {
	t.Helper()
	if got := s.Image(); !image.Same(got, want) {
		t.Fatalf("behind %s: the space has%s; want%s", done, wrote(got), wrote(want))
	}
}

// apply does what was told on another space, as the stream does it, at any time: each command changes something, and tells itself.
func apply(t *testing.T, s *space.Space, l [][]string) {
	t.Helper()
	for i, command := range l {
		if !slices.Contains([]string{"DEL", "PEXPIREAT", "PERSIST", "RENAME", "FLUSHALL"}, command[0]) {
			t.Fatalf("%q is told", command)
		}
		now := []int{0, api.MaxTime, 10}[i%3]
		r, again := keys.Do(s, api.Call{Role: api.RoleStream, Now: now, Args: command})
		if r.Kind != api.RSimple && r.N != 1 || !sameTold(again, [][]string{command}) {
			t.Fatalf("%q, done by the stream, answers %s and tells %q", command, show(r), again)
		}
	}
}

// trio is a space, its model, and a space that the stream alone changes.
type trio struct {
	s     *space.Space
	m     model
	other *space.Space
}

func newTrio(t *testing.T, l []api.Entry) *trio {
	t.Helper()
	s := load(t, l)
	return &trio{s, model{l: s.Image()}, load(t, l)}
}

// do does a call, and holds all that comes of it against the model.
func (x *trio) do(t *testing.T, c api.Call) {
	t.Helper()
	before := x.m.l
	r, told := keys.Do(x.s, c)
	want, wantTold := x.m.do(c)
	if show(r) != show(want) || !sameTold(told, wantTold) {
		t.Fatalf("%s, of%s, = %s, told %s; want %s, told %s", ask(c), wrote(before), short(show(r)), wroteTold(told), short(show(want)), wroteTold(wantTold))
	}
	holds(t, ask(c)+" of"+wrote(before), x.s, x.m.l)
	if c.Role != api.RoleReader {
		apply(t, x.other, told)
		holds(t, "what "+ask(c)+" told, of"+wrote(before)+",", x.other, x.m.l)
	}
}

// row is a call on some entries, and what is to come of it; after `=`: the entries are as they were.
type row struct {
	before, args, reply, told, after string
}

// check does the calls of rows, each on a space of its own, at a time by a role.
func check(t *testing.T, role api.Role, now int, rows ...row) {
	t.Helper()
	for _, x := range rows {
		args := words(x.args)
		checkCall(t, api.Call{Role: role, Now: now, Args: args}, entries(x.before), reply(x.reply, args[0]), told(x.told), x.after)
	}
}

func checkCall(t *testing.T, c api.Call, before []api.Entry, want string, wantTold [][]string, after string) {
	t.Helper()
	s, other := load(t, before), load(t, before)
	wantEntries := s.Image()
	if after != "=" {
		wantEntries = load(t, entries(after)).Image()
	}
	r, told := keys.Do(s, c)
	if show(r) != want || !sameTold(told, wantTold) {
		t.Errorf("%s, of%s, = %s, told %s; want %s, told %s", ask(c), wrote(before), short(show(r)), wroteTold(told), short(want), wroteTold(wantTold))
	}
	if got := s.Image(); !image.Same(got, wantEntries) {
		t.Errorf("%s, of%s, leaves%s; want%s", ask(c), wrote(before), wrote(got), wrote(wantEntries))
	}
	if c.Role != api.RoleReader {
		apply(t, other, told)
		holds(t, "what "+ask(c)+" told", other, wantEntries)
	}
}
