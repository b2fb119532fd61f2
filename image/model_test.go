package image_test

import (
	"encoding/hex"
	"fmt"
	"math/rand/v2"
	"slices"
	"strconv"
	"strings"
	"testing"

	"millpond/api"
	"millpond/image"
)

// Short ways to write values and entries

func str(s string) api.Value           { return api.Value{Kind: api.KString, S: s} }
func list(l ...string) api.Value       { return api.Value{Kind: api.KList, L: l} }
func set(l ...string) api.Value        { return api.Value{Kind: api.KSet, L: l} }
func zset(l ...api.Scored) api.Value   { return api.Value{Kind: api.KZset, Z: l} }
func hash(l ...api.Field) api.Value    { return api.Value{Kind: api.KHash, H: l} }
func sc(m string, n int64) api.Scored  { return api.Scored{M: m, N: n} }
func fi(f, v string) api.Field         { return api.Field{F: f, V: v} }
func row(l ...api.Entry) []api.Entry   { return l }
func stay(k string, v api.Value) entry { return entry{Key: k, V: v, At: api.Never} }

func ends(k string, v api.Value, at int) entry { return entry{Key: k, V: v, At: at} }

type entry = api.Entry

// The model: each question is asked of each two things of a row

// modelValue: may a value be?
func modelValue(v api.Value) bool {
	texts := append(slices.Clone(v.L), v.S)
	for _, m := range v.Z {
		texts = append(texts, m.M)
	}
	for _, f := range v.H {
		texts = append(texts, f.F, f.V)
	}
	for _, s := range texts {
		if len(s) > 65536 {
			return false
		}
	}
	for i := range v.Z {
		for j := range i {
			a, b := v.Z[j], v.Z[i]
			if v.Kind == api.KZset && (a.M == b.M || a.N > b.N || a.N == b.N && a.M > b.M) {
				return false
			}
		}
	}
	for i := range v.H {
		for j := range i {
			if v.Kind == api.KHash && v.H[j].F >= v.H[i].F {
				return false
			}
		}
	}
	for i := range v.L {
		for j := range i {
			if v.Kind == api.KSet && v.L[j] >= v.L[i] {
				return false
			}
		}
	}
	has := map[string]bool{"S": v.S != "", "L": len(v.L) > 0, "Z": len(v.Z) > 0, "H": len(v.H) > 0}
	name := map[api.Kind]string{api.KString: "S", api.KList: "L", api.KSet: "L", api.KZset: "Z", api.KHash: "H"}[v.Kind]
	for field, there := range has {
		if there && field != name {
			return false
		}
	}
	count := len(v.L) + len(v.Z) + len(v.H)
	return name == "S" || name != "" && count > 0 && count <= 65536
}

// modelEntry: may an entry be?
func modelEntry(e api.Entry) bool {
	return len(e.Key) <= 65536 && modelValue(e.V) && e.At >= -1 && e.At <= 1<<40
}

// modelCheck is Check's answer of a small row.
func modelCheck(l []api.Entry) api.Errno {
	for i := range l {
		for j := range i {
			if l[j].Key >= l[i].Key {
				return api.ErrImage
			}
		}
		if !modelEntry(l[i]) {
			return api.ErrImage
		}
	}
	return api.OK
}

// put lays a thing ahead of the first one that does not stand ahead of it.
func put[T any](l []T, x T, ahead func(a, b T) bool) []T {
	i := 0
	for i < len(l) && ahead(l[i], x) {
		i++
	}
	return slices.Insert(slices.Clone(l), i, x)
}

// modelInOrder is a value whose members or fields were put where they belong, one by one.
func modelInOrder(v api.Value) api.Value {
	own := v
	switch v.Kind {
	case api.KSet:
		own.L = nil
		for _, x := range v.L {
			own.L = put(own.L, x, func(a, b string) bool { return a < b })
		}
	case api.KZset:
		own.Z = nil
		for _, x := range v.Z {
			own.Z = put(own.Z, x, func(a, b api.Scored) bool { return a.N < b.N || a.N == b.N && a.M < b.M })
		}
	case api.KHash:
		own.H = nil
		for _, x := range v.H {
			own.H = put(own.H, x, func(a, b api.Field) bool { return a.F < b.F })
		}
	}
	return own
}

// modelCanon is Canon's answer of a small row.
func modelCanon(l []api.Entry) ([]api.Entry, api.Errno) {
	var own []api.Entry
	for _, e := range l {
		e.V = modelInOrder(e.V)
		own = put(own, e, func(a, b api.Entry) bool { return a.Key < b.Key })
	}
	if e := modelCheck(own); e != api.OK {
		return nil, e
	}
	return own, api.OK
}

// modelDel is Del's answer.
func modelDel(l []api.Entry, key string) ([]api.Entry, bool) {
	var rest []api.Entry
	gone := false
	for _, e := range l {
		if e.Key == key && !gone {
			gone = true
		} else {
			rest = append(rest, e)
		}
	}
	return rest, gone
}

// modelPut is Put's answer of a small row.
func modelPut(l []api.Entry, e api.Entry) ([]api.Entry, api.Errno) {
	if modelCheck(l) != api.OK || !modelEntry(e) {
		return nil, api.ErrImage
	}
	rest, _ := modelDel(l, e.Key)
	return put(rest, e, func(a, b api.Entry) bool { return a.Key < b.Key }), api.OK
}

// modelHex is a text's hex.
func modelHex(s string) string {
	if s == "" {
		return "."
	}
	return fmt.Sprintf("%x", s)
}

// modelLine is an entry's line, and the byte 10 behind it.
func modelLine(e api.Entry) string {
	kinds := map[api.Kind]string{1: "string", 2: "list", 3: "set", 4: "zset", 5: "hash"}
	line := []string{kinds[e.V.Kind], modelHex(e.Key), "-"}
	if e.At != -1 {
		line[2] = strconv.Itoa(e.At)
	}
	if e.V.Kind == api.KString {
		line = append(line, modelHex(e.V.S))
	}
	for _, x := range e.V.L {
		line = append(line, modelHex(x))
	}
	for _, m := range e.V.Z {
		line = append(line, fmt.Sprintf("%s:%d", modelHex(m.M), m.N))
	}
	for _, f := range e.V.H {
		line = append(line, modelHex(f.F)+"="+modelHex(f.V))
	}
	return strings.Join(line, " ") + "\n"
}

// modelText is an image's text.
func modelText(l []api.Entry) string {
	var text strings.Builder
	for _, e := range l {
		text.WriteString(modelLine(e))
	}
	return text.String()
}

// loose reads a line as it comes, whatever signs it is written with; whether it is written as it must be is asked by writing it again.
func loose(line string) api.Entry {
	w := strings.Split(strings.TrimSuffix(line, "\n"), " ")
	for len(w) < 3 {
		w = append(w, "")
	}
	text := func(s string) string {
		b, _ := hex.DecodeString(s)
		return string(b)
	}
	e := api.Entry{Key: text(w[1]), At: -1}
	if w[2] != "-" {
		e.At, _ = strconv.Atoi(w[2])
	}
	e.V.Kind = map[string]api.Kind{"string": 1, "list": 2, "set": 3, "zset": 4, "hash": 5}[w[0]]
	for _, x := range w[3:] {
		switch e.V.Kind {
		case api.KString:
			e.V.S = text(x)
		case api.KZset:
			m, n, _ := strings.Cut(x, ":")
			score, _ := strconv.ParseInt(n, 10, 64)
			e.V.Z = append(e.V.Z, sc(text(m), score))
		case api.KHash:
			f, v, _ := strings.Cut(x, "=")
			e.V.H = append(e.V.H, fi(text(f), text(v)))
		default:
			e.V.L = append(e.V.L, text(x))
		}
	}
	return e
}

// modelRead is Read's answer of a small text: line by line, is what was read so far an image whose text stands there so far?
func modelRead(s string) ([]api.Entry, int, api.Errno) {
	var l []api.Entry
	for i, line := range strings.SplitAfter(s, "\n") {
		if line == "" {
			break
		}
		l = append(l, loose(line))
		if modelLine(l[i]) != line || modelCheck(l) != api.OK {
			return nil, i, api.ErrText
		}
	}
	return l, 0, api.OK
}

// checkRow holds a row that is told, and the error beside it, against those of the model.
func checkRow(t *testing.T, call string, args any, got []api.Entry, e api.Errno, want []api.Entry, wantE api.Errno) {
	t.Helper()
	if !same(got, want) || e != wantE {
		t.Fatalf("%s of %s = %s, %v; want %s, %v", call, brief(args), brief(got), e, brief(want), wantE)
	}
}

// brief is the beginning of what something is written as: it may be great.
func brief(x any) string { return fmt.Sprintf("%.300s", fmt.Sprintf("%+v", x)) }

// same holds rows against each other, nil and empty lists alike, without the package's own Same.
func same(a, b []api.Entry) bool {
	return slices.EqualFunc(a, b, func(x, y api.Entry) bool {
		return x.Key == y.Key && x.At == y.At && sameValue(x.V, y.V)
	})
}

func sameValue(x, y api.Value) bool {
	return x.Kind == y.Kind && x.S == y.S && slices.Equal(x.L, y.L) && slices.Equal(x.Z, y.Z) && slices.Equal(x.H, y.H)
}

// clone is a row that shares no list with another one.
func clone(l []api.Entry) []api.Entry {
	own := slices.Clone(l)
	for i := range own {
		v := &own[i].V
		v.L, v.Z, v.H = slices.Clone(v.L), slices.Clone(v.Z), slices.Clone(v.H)
	}
	return own
}

// great are n texts that rise.
func great(n int) []string {
	l := make([]string, n)
	for i := range l {
		l[i] = "m" + strconv.Itoa(10000000+i)
	}
	return l
}

// greatImage is an image of n entries.
func greatImage(n int) []api.Entry {
	l := make([]api.Entry, n)
	for i, key := range great(n) {
		l[i] = stay(key, str("v"))
	}
	return l
}

// greatZset and greatHash have n members, n fields.
func greatZset(n int) api.Value {
	l := make([]api.Scored, n)
	for i, m := range great(n) {
		l[i] = sc(m, int64(i/3))
	}
	return zset(l...)
}

func greatHash(n int) api.Value {
	l := make([]api.Field, n)
	for i, f := range great(n) {
		l[i] = fi(f, "v")
	}
	return hash(l...)
}

// rows are all rows of up to n of some things, in any order.
func rows[T any](n int, l ...T) [][]T {
	all := [][]T{nil}
	last := all
	for range n {
		var longer [][]T
		for _, r := range last {
			for _, x := range l {
				longer = append(longer, slices.Concat(r, []T{x}))
			}
		}
		all, last = append(all, longer...), longer
	}
	return all
}

// maker makes images, the same ones at each run.
type maker struct{ *rand.Rand }

func newMaker(seed uint64) maker { return maker{rand.New(rand.NewPCG(seed, 9))} }

// text is a short one of any bytes.
func (m maker) text() string {
	b := make([]byte, m.IntN(4))
	for i := range b {
		b[i] = []byte{0, '\n', ' ', '.', 'a', 'b', 0x7f, 0x80, 0xff, byte(m.IntN(256))}[m.IntN(10)]
	}
	return string(b)
}

// texts are up to n different ones, in any order.
func (m maker) texts(n int) []string {
	var l []string
	for range 1 + m.IntN(n) {
		if s := m.text(); !slices.Contains(l, s) {
			l = append(l, s)
		}
	}
	return l
}

// number is any one, often near an edge.
func (m maker) number() int64 {
	return []int64{0, 1, -1, int64(m.IntN(5)), 1<<63 - 1, -1 << 63, int64(m.Uint64())}[m.IntN(7)]
}

// value is one whose members and fields stand in any order, each once.
func (m maker) value() api.Value {
	v := api.Value{Kind: api.Kind(1 + m.IntN(5))}
	switch v.Kind {
	case api.KString:
		v.S = m.text()
	case api.KList, api.KSet:
		v.L = m.texts(6)
	case api.KZset:
		for _, x := range m.texts(6) {
			v.Z = append(v.Z, sc(x, m.number()))
		}
	case api.KHash:
		for _, x := range m.texts(6) {
			v.H = append(v.H, fi(x, m.text()))
		}
	}
	return v
}

// entry is one with that key.
func (m maker) entry(key string) api.Entry {
	return ends(key, m.value(), []int{-1, 0, 1, m.IntN(1 << 30), 1 << 40}[m.IntN(5)])
}

// entries are up to n ones with different keys, in any order.
func (m maker) entries(n int) []api.Entry {
	var l []api.Entry
	for _, key := range m.texts(n) {
		l = append(l, m.entry(key))
	}
	return l
}

// image is one of up to n entries.
func (m maker) image(t *testing.T, n int) []api.Entry {
	t.Helper()
	l, e := modelCanon(m.entries(n))
	if e != api.OK || image.Check(l) != api.OK {
		t.Fatalf("no image was made: %v, %v: %v", e, image.Check(l), l)
	}
	return l
}

// shuffled is a row in some other order, the members and fields of its values, too.
func (m maker) shuffled(l []api.Entry) []api.Entry {
	own := clone(l)
	m.Shuffle(len(own), func(i, j int) { own[i], own[j] = own[j], own[i] })
	for _, e := range own {
		v := e.V
		if v.Kind == api.KSet {
			m.Shuffle(len(v.L), func(i, j int) { v.L[i], v.L[j] = v.L[j], v.L[i] })
		}
		m.Shuffle(len(v.Z), func(i, j int) { v.Z[i], v.Z[j] = v.Z[j], v.Z[i] })
		m.Shuffle(len(v.H), func(i, j int) { v.H[i], v.H[j] = v.H[j], v.H[i] })
	}
	return own
}
