package snapshot_test

import (
	"encoding/binary"
	"hash/crc32"
	"math"
	"slices"
	"strconv"
	"strings"
	"testing"

	"millpond/api"
	"millpond/image"
	"millpond/snapshot"
)

const (
	least    = math.MinInt
	greatest = math.MaxInt
	bare     = 33 // bytes of a snapshot of no entries
	head     = "MILLPOND\x01"
)

var (
	most  = strings.Repeat("x", api.MaxBulk)
	over  = most + "x"
	known = api.History{ID: 1}
)

// Short ways to write values and entries

type entry = api.Entry

func str(s string) api.Value           { return api.Value{Kind: api.KString, S: s} }
func list(l ...string) api.Value       { return api.Value{Kind: api.KList, L: l} }
func set(l ...string) api.Value        { return api.Value{Kind: api.KSet, L: l} }
func zset(l ...api.Scored) api.Value   { return api.Value{Kind: api.KZset, Z: l} }
func hash(l ...api.Field) api.Value    { return api.Value{Kind: api.KHash, H: l} }
func sc(m string, n int64) api.Scored  { return api.Scored{M: m, N: n} }
func fi(f, v string) api.Field         { return api.Field{F: f, V: v} }
func row(l ...entry) []entry           { return l }
func stay(k string, v api.Value) entry { return entry{Key: k, V: v, At: api.Never} }

func ends(k string, v api.Value, at int) entry { return entry{Key: k, V: v, At: at} }

// many are n texts that rise.
func many(n int) []string {
	l := make([]string, n)
	for i := range l {
		l[i] = strconv.Itoa(10000000 + i)
	}
	return l
}

// scored and fields are n members, n fields.
func scored(n int) []api.Scored {
	l := make([]api.Scored, n)
	for i, s := range many(n) {
		l[i] = sc(s, int64(i))
	}
	return l
}

func fields(n int) []api.Field {
	l := make([]api.Field, n)
	for i, s := range many(n) {
		l[i] = fi(s, s)
	}
	return l
}

// entries are n entries.
func entries(n int) []entry {
	l := make([]entry, n)
	for i, s := range many(n) {
		l[i] = stay(s, str("v"))
	}
	return l
}

// ofSize is an image whose snapshot has so many bytes, some of which are those of a long list.
func ofSize(t *testing.T, n int) []entry {
	t.Helper()
	const item = 4 + api.MaxBulk
	rest := n - bare - 2*(1+8+4+1+4)
	l := row(stay("a", list(slices.Repeat([]string{most}, rest/item)...)), stay("b", str(most[:rest%item])))
	if size := len(told(known, l)); size != n {
		t.Fatalf("the image's snapshot has %d bytes, want %d", size, n)
	}
	return l
}

// The model: bytes as the chapter's words say, by the means of Go's library

func little(n uint64, size int) string {
	return string(binary.LittleEndian.AppendUint64(nil, n)[:size])
}

func textBytes(s string) string { return little(uint64(len(s)), 4) + s }

// entryBytes are an entry's bytes, whether it may be or not: of each kind all that there is.
func entryBytes(e entry) string {
	var b strings.Builder
	b.WriteString(little(uint64(e.V.Kind), 1) + little(uint64(e.At), 8) + textBytes(e.Key))
	if e.V.Kind == api.KString {
		b.WriteString(textBytes(e.V.S))
		return b.String()
	}
	b.WriteString(little(uint64(len(e.V.L)+len(e.V.Z)+len(e.V.H)), 4))
	for _, s := range e.V.L {
		b.WriteString(textBytes(s))
	}
	for _, m := range e.V.Z {
		b.WriteString(textBytes(m.M) + little(uint64(m.N), 8))
	}
	for _, f := range e.V.H {
		b.WriteString(textBytes(f.F) + textBytes(f.V))
	}
	return b.String()
}

// body is what stands between a snapshot's head and its sum.
func body(h api.History, l []entry) string {
	var b strings.Builder
	b.WriteString(little(h.ID, 8) + little(uint64(h.Offset), 8) + little(uint64(len(l)), 4))
	for _, e := range l {
		b.WriteString(entryBytes(e))
	}
	return b.String()
}

// sealed is a body with the right head and sum.
func sealed(body string) []byte {
	b := append([]byte(head), body...)
	return binary.LittleEndian.AppendUint32(b, crc32.ChecksumIEEE(b))
}

// told are a snapshot's bytes.
func told(h api.History, l []entry) []byte { return sealed(body(h, l)) }

// cutter takes numbers and texts off some bytes, as long as there are enough of them.
type cutter struct {
	b     []byte
	short bool
}

func (c *cutter) take(n int) []byte {
	if c.short || n > len(c.b) {
		c.short = true
		return make([]byte, min(n, 8))
	}
	b := c.b[:n]
	c.b = c.b[n:]
	return b
}

func (c *cutter) u32() int  { return int(binary.LittleEndian.Uint32(c.take(4))) }
func (c *cutter) i64() int  { return int(binary.LittleEndian.Uint64(c.take(8))) }
func (c *cutter) s() string { return string(c.take(c.u32())) }

// read is the history and the image whose snapshot some bytes are, if there are such.
func read(b []byte) (api.History, []entry, bool) {
	c := &cutter{b: b}
	c.take(len(head))
	h := api.History{ID: uint64(c.i64()), Offset: c.i64()}
	var l []entry
	for i := c.u32(); i > 0 && !c.short; i-- {
		e := entry{V: api.Value{Kind: api.Kind(c.take(1)[0])}}
		e.At, e.Key = c.i64(), c.s()
		if e.V.Kind == api.KString {
			e.V.S = c.s()
			l = append(l, e)
			continue
		}
		for j := c.u32(); j > 0 && !c.short; j-- {
			s := c.s()
			switch e.V.Kind {
			case api.KZset:
				e.V.Z = append(e.V.Z, sc(s, int64(c.i64())))
			case api.KHash:
				e.V.H = append(e.V.H, fi(s, c.s()))
			default:
				e.V.L = append(e.V.L, s)
			}
		}
		l = append(l, e)
	}
	may := h.ID != 0 && h.Offset >= 0 && h.Offset <= api.MaxOffset && image.Check(l) == api.OK
	if c.short || !may || string(told(h, l)) != string(b) {
		return api.History{}, nil, false
	}
	return h, l, true
}

// Calls that are held against what must come of them

// encoded are the bytes that Encode must tell.
func encoded(t *testing.T, h api.History, l []entry) []byte {
	t.Helper()
	b, e := snapshot.Encode(h, l)
	if want := told(h, l); e != api.OK || string(b) != string(want) {
		t.Fatalf("Encode(%+v, %s) = %q, %v, want %q", h, brief(l), first(b), e, first(want))
	}
	return b
}

// refused holds that Decode of bytes is an error, with nothing beside it.
func refused(t *testing.T, name string, b []byte, want api.Errno) {
	t.Helper()
	if h, l, e := snapshot.Decode(b); h != (api.History{}) || l != nil || e != want {
		t.Fatalf("%s: Decode(%q) = %+v, %s, %v, want %v", name, first(b), h, brief(l), e, want)
	}
}

// taken holds that Decode of bytes is a history and an image.
func taken(t *testing.T, name string, b []byte, h api.History, l []entry) {
	t.Helper()
	is, got, e := snapshot.Decode(b)
	if want := (api.History{ID: h.ID, Offset: h.Offset}); is != want || !image.Same(got, l) || e != api.OK {
		t.Fatalf("%s: Decode(%q) = %+v, %s, %v, want %+v, %s", name, first(b), is, brief(got), e, want, brief(l))
	}
}

// first and brief are the beginnings of bytes and entries, as much as a line may show.
func first(b []byte) []byte { return b[:min(len(b), 400)] }

func brief(l []entry) string {
	s, e := image.Text(l)
	if e != api.OK {
		return strconv.Itoa(len(l)) + " entries that are no image"
	}
	return s[:min(len(s), 400)]
}
