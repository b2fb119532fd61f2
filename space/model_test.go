package space_test

import (
	"fmt"
	"math/big"
	"math/rand/v2"
	"slices"
	"strconv"
	"strings"
	"testing"

	"millpond/api"
	"millpond/image"
	"millpond/space"
)

// Short ways to write values, entries and calls

type entry = api.Entry

func str(s string) api.Value           { return api.Value{Kind: api.KString, S: s} }
func list(l ...string) api.Value       { return api.Value{Kind: api.KList, L: l} }
func set(l ...string) api.Value        { return api.Value{Kind: api.KSet, L: l} }
func zset(l ...api.Scored) api.Value   { return api.Value{Kind: api.KZset, Z: l} }
func hash(l ...api.Field) api.Value    { return api.Value{Kind: api.KHash, H: l} }
func sc(m string, n int64) api.Scored  { return api.Scored{M: m, N: n} }
func fi(f, v string) api.Field         { return api.Field{F: f, V: v} }
func row(l ...api.Entry) []api.Entry   { return l }
func stay(k string, v api.Value) entry { return entry{Key: k, V: v, At: api.Never} }

func ends(k string, v api.Value, at int) entry { return entry{Key: k, V: v, At: at} }

func by(role api.Role, now int, draw uint64) api.Call {
	return api.Call{Role: role, Now: now, Draw: draw}
}

// numbered are n entries with keys of six digits, rising, from 0 on.
func numbered(n int, at func(i int) int) []api.Entry {
	l := make([]api.Entry, n)
	for i := range l {
		l[i] = ends(fmt.Sprintf("%06d", i), str(strconv.Itoa(i)), at(i))
	}
	return l
}

func never(int) int { return api.Never }

// dels are the commands that tell that some keys were taken out.
func dels(keys ...string) [][]string {
	var told [][]string
	for _, key := range keys {
		told = append(told, []string{"DEL", key})
	}
	return told
}

// load is a space of an image.
func load(t *testing.T, l ...api.Entry) *space.Space {
	t.Helper()
	s, e := space.Load(l)
	if e != api.OK || s == nil {
		t.Fatalf("Load of %s = %v, %v", short(l), s, e)
	}
	return s
}

// short is what something looks like, cut off where that is long.
func short(x any) string {
	s := fmt.Sprintf("%+v", x)
	return s[:min(len(s), 500)]
}

// holds: has a space just these entries? (What was done is written down only if it has not.)
func holds(t *testing.T, done any, s *space.Space, want ...api.Entry) {
	t.Helper()
	if got := s.Image(); !image.Same(got, want) {
		t.Fatalf("behind %+v: Image = %s; want %s", done, short(got), short(want))
	}
	if got := s.Len(); got != len(want) {
		t.Fatalf("behind %+v: Len = %d; want %d", done, got, len(want))
	}
}

// sameTold: are two streams alike?
func sameTold(a, b [][]string) bool { return slices.EqualFunc(a, b, slices.Equal) }

// The model: a space is an image, which image's Put and Del alone change

type model struct{ l []api.Entry }

func (m *model) del(key string) bool {
	rest, gone := image.Del(m.l, key)
	m.l = rest
	return gone
}

func (m *model) put(e api.Entry) api.Errno {
	with, wrong := image.Put(m.l, e)
	if wrong == api.OK {
		m.l = with
	}
	return wrong
}

// modelOver: is an entry over?
func modelOver(e api.Entry, now int) bool {
	if e.At == -1 {
		return false
	}
	return now >= e.At
}

// modelSees: does a call see an entry that is there?
func modelSees(c api.Call, e api.Entry) bool {
	switch c.Role {
	case 1, 2:
		return !modelOver(e, c.Now)
	}
	return true
}

func (m *model) get(c api.Call, key string) (api.Value, bool, [][]string) {
	e, there := image.Find(m.l, key)
	switch {
	case !there:
		return api.Value{}, false, nil
	case modelSees(c, e):
		return e.V, true, nil
	case c.Role == 1:
		m.del(key)
		return api.Value{}, false, dels(key)
	}
	return api.Value{}, false, nil
}

func (m *model) end(key string, at int) bool {
	e, there := image.Find(m.l, key)
	e.At = at
	return there && m.put(e) == api.OK
}

// modelNext is the draw behind a draw, by numbers without bound.
func modelNext(draw uint64) uint64 {
	x := new(big.Int).SetUint64(draw)
	x.Mul(x, big.NewInt(6364136223846793005))
	x.Add(x, big.NewInt(1442695040888963407))
	return x.Mod(x, new(big.Int).Lsh(big.NewInt(1), 64)).Uint64()
}

func (m *model) pick(c api.Call) (string, bool, [][]string) {
	var told [][]string
	for draw := c.Draw; len(m.l) > 0; draw = modelNext(draw) {
		at := int(draw % uint64(len(m.l)))
		if modelSees(c, m.l[at]) {
			return m.l[at].Key, true, told
		}
		if c.Role == 1 {
			told = append(told, []string{"DEL", m.l[at].Key})
			m.l = slices.Delete(m.l, at, at+1)
			continue
		}
		for _, e := range slices.Concat(m.l[at:], m.l[:at]) {
			if modelSees(c, e) {
				return e.Key, true, nil
			}
		}
		return "", false, nil
	}
	return "", false, told
}

func (m *model) keys(c api.Call) []string {
	var keys []string
	for _, e := range m.l {
		if modelSees(c, e) {
			keys = append(keys, e.Key)
		}
	}
	return keys
}

// expire takes out, most times, the first of those that end earliest.
func (m *model) expire(now, most int) [][]string {
	var told [][]string
	for range max(most, 0) {
		first := -1
		for i, e := range m.l {
			if modelOver(e, now) && (first < 0 || e.At < m.l[first].At) {
				first = i
			}
		}
		if first < 0 {
			break
		}
		told = append(told, []string{"DEL", m.l[first].Key})
		m.l = slices.Delete(m.l, first, first+1)
	}
	return told
}

func (m *model) over(now int) int {
	n := 0
	for _, e := range m.l {
		if modelOver(e, now) {
			n++
		}
	}
	return n
}

// Calls on a space and on its model

// step is a call, by its name, with what it may be given.
type step struct {
	name string
	c    api.Call
	e    api.Entry
	most int
}

// answer writes down what a call answered.
func answer(parts ...any) string { return fmt.Sprintf("%q %+v", parts, parts) }

// onSpace does a step on a space: what is told for the stream, and all that is answered.
func onSpace(s *space.Space, x step) ([][]string, string) {
	switch x.name {
	case "Image":
		return nil, answer(s.Image())
	case "Len":
		return nil, answer(s.Len())
	case "Get":
		v, ok, told := s.Get(x.c, x.e.Key)
		return told, answer(v, ok, told)
	case "Look":
		e, ok := s.Look(x.e.Key)
		return nil, answer(e, ok)
	case "Put":
		return nil, answer(s.Put(x.e.Key, x.e.V, x.e.At))
	case "End":
		return nil, answer(s.End(x.e.Key, x.e.At))
	case "Del":
		return nil, answer(s.Del(x.e.Key))
	case "Clear":
		return nil, answer(s.Clear())
	case "Pick":
		key, ok, told := s.Pick(x.c)
		return told, answer(key, ok, told)
	case "Over":
		return nil, answer(s.Over(x.c.Now))
	case "Expire":
		told := s.Expire(x.c.Now, x.most)
		return told, answer(told)
	case "Keys":
		return nil, answer(s.Keys(x.c))
	}
	panic(x.name)
}

// onModel does a step on a model.
func onModel(m *model, x step) string {
	switch x.name {
	case "Image":
		return answer(m.l)
	case "Len":
		return answer(len(m.l))
	case "Get":
		v, ok, told := m.get(x.c, x.e.Key)
		return answer(v, ok, told)
	case "Look":
		e, ok := image.Find(m.l, x.e.Key)
		return answer(e, ok)
	case "Put":
		return answer(m.put(x.e))
	case "End":
		return answer(m.end(x.e.Key, x.e.At))
	case "Del":
		return answer(m.del(x.e.Key))
	case "Clear":
		n := len(m.l)
		m.l = nil
		return answer(n)
	case "Pick":
		key, ok, told := m.pick(x.c)
		return answer(key, ok, told)
	case "Over":
		return answer(m.over(x.c.Now))
	case "Expire":
		return answer(m.expire(x.c.Now, x.most))
	case "Keys":
		return answer(m.keys(x.c))
	}
	panic(x.name)
}

// changes tells whether a step may change a space but by what it tells.
func changes(x step) bool { return strings.Contains(" Put End Del Clear ", " "+x.name+" ") }

// trio is a space, its model, and a space that has the same by what the stream tells (P10.8).
type trio struct {
	s, follower *space.Space
	m           model
	done        []step
}

func newTrio(t *testing.T, l ...api.Entry) *trio {
	return &trio{s: load(t, l...), follower: load(t, l...), m: model{slices.Clone(l)}}
}

// do does a step on all three, and holds what came of it against each other.
func (x *trio) do(t *testing.T, one step) {
	t.Helper()
	x.done = append(x.done, one)
	told, got := onSpace(x.s, one)
	if want := onModel(&x.m, one); got != want {
		t.Fatalf("behind %+v the answer is %s; want %s", x.done, short(got), short(want))
	}
	holds(t, x.done, x.s, x.m.l...)
	if changes(one) {
		onSpace(x.follower, one)
	}
	for _, command := range told {
		if len(command) != 2 || command[0] != "DEL" || !x.follower.Del(command[1]) {
			t.Fatalf("behind %+v %q is told; that takes nothing out", x.done, command)
		}
	}
	holds(t, []any{"what is told of", x.done}, x.follower, x.m.l...)
}

// P10.6, P10.7, P10.8: rows of calls

// alphabet are steps of all kinds on a few keys.
func alphabet() []step {
	all := []step{{name: "Image"}, {name: "Clear"}, {name: "Over", c: by(0, 5, 0)}, {name: "Len"}}
	for _, key := range []string{"a", "b"} {
		for _, e := range row(stay(key, list("x", "x")), ends(key, str(""), 5), ends(key, str(key), 6), ends(key, list(), 5)) {
			all = append(all, step{name: "Put", e: e})
		}
		all = append(all, step{name: "End", e: stay(key, api.Value{})}, step{name: "End", e: ends(key, api.Value{}, 4)}, step{name: "Del", e: stay(key, api.Value{})}, step{name: "Look", e: entry{Key: key}})
		for role := range api.Role(4) {
			all = append(all, step{name: "Get", c: by(role, 5, 0), e: entry{Key: key}})
		}
	}
	for role := range api.Role(4) {
		all = append(all, step{name: "Keys", c: by(role, 5, 0)}, step{name: "Pick", c: by(role, 5, 0)}, step{name: "Pick", c: by(role, 5, 1)})
	}
	for most := range 3 {
		all = append(all, step{name: "Expire", c: by(0, 5, 0), most: most})
	}
	return all
}

func TestAllShortRowsOfCalls(t *testing.T) {
	start := row(ends("a", set("m"), 3), stay("b", zset(sc("n", 1))), ends("c", hash(fi("f", "")), 5))
	all := alphabet()
	for _, first := range all {
		for _, second := range all {
			for _, third := range all {
				x := newTrio(t, start...)
				x.do(t, first)
				x.do(t, second)
				x.do(t, third)
			}
		}
	}
}

// maker makes steps.
type maker struct{ *rand.Rand }

func newMaker(seed uint64) maker { return maker{rand.New(rand.NewPCG(seed, 10))} }

func pickOf[T any](m maker, l ...T) T { return l[m.IntN(len(l))] }

// value is a value that may be, but seldom one that may not.
func (m maker) value() api.Value {
	return pickOf(m, str(""), str("v"), list("b", "a", "b"), set("a", "b"), zset(sc("b", -1), sc("a", 3)), hash(fi("a", "b"), fi("c", "")), set("b", "a"))
}

func (m maker) at() int { return pickOf(m, -1, -1, 0, 1, 2, 3, 4, 5, 6, 7, 1<<40, -2) }

// step is any step on any of so many keys; some names come more often.
func (m maker) step(keys int, names ...string) step {
	c := by(pickOf(m, api.Role(1), 1, 1, 2, 3, 0, 4, -1), m.IntN(9)-1, m.Uint64()>>m.IntN(64))
	e := ends(fmt.Sprint("k", m.IntN(keys)), m.value(), m.at())
	return step{name: pickOf(m, names...), c: c, e: e, most: m.IntN(5) - 1}
}

func TestLongRowsOfCalls(t *testing.T) {
	m := newMaker(1)
	names := strings.Fields("Image Len Get Get Get Look Put Put Put Put Put Put Put Put Put End End Del Pick Pick Over Expire Keys")
	for _, keys := range []int{1, 2, 5, 30} {
		for range 60 {
			x := newTrio(t)
			for range 200 {
				x.do(t, m.step(keys, names...))
			}
		}
	}
	x := newTrio(t)
	for range 40 {
		x.do(t, m.step(3, append(names, "Clear", "Clear")...))
	}
}

// Many keys come and go, so that the table grows and shrinks meanwhile.
func TestManyKeysComeAndGo(t *testing.T) {
	m := newMaker(2)
	for range 3 {
		x := newTrio(t)
		for range 500 {
			x.do(t, m.step(400, strings.Fields("Put Put Put Put Get")...))
			x.done = nil
		}
		for range 500 {
			x.do(t, m.step(400, strings.Fields("Del Del Get Get Pick Expire Keys Look")...))
			x.done = nil
		}
	}
}
