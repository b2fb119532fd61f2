package snapshot_test

import (
	"encoding/binary"
	"math"
	"runtime"
	"slices"
	"strings"
	"testing"

	"millpond/api"
	"millpond/snapshot"
)

// P20.3

// mixed is an image with entries of all kinds.
func mixed() []entry {
	return row(
		ends("", str("\x00\r\n\xff"), 0), stay("a", list("b", "", "b")), ends("b", set("", "a", "\xff"), api.MaxTime),
		stay("c", zset(sc("z", -5), sc("", 3), sc("y", 3))), ends("d", hash(fi("", "v"), fi("f", "")), 258), stay("e", str("")),
	)
}

func TestDecodeWhatEncodeTells(t *testing.T) {
	images := [][]entry{nil, mixed(), entries(1000)}
	for _, v := range values() {
		images = append(images, row(stay("k", v)), row(ends("", v, 0), ends("k", v, api.MaxTime)))
	}
	for _, l := range images {
		for _, h := range []api.History{{ID: 1}, {ID: math.MaxUint64, Offset: api.MaxOffset}, {ID: 1 << 63, Offset: 77, Second: 5, Fork: 60}} {
			taken(t, "what Encode tells", encoded(t, h, l), h, l)
		}
	}
}

func TestDecodeTooLong(t *testing.T) {
	t.Parallel()
	whole := ofSize(t, api.MaxStore)
	long := told(known, ofSize(t, api.MaxStore+1))
	refused(t, "one byte more, all right", long, api.ErrLong)
	refused(t, "one byte more, cut", long[:api.MaxStore], api.ErrSum)
	long[api.MaxStore]++
	refused(t, "one byte more, with another sum", long, api.ErrLong)
	refused(t, "much more", append(long, long[:5000]...), api.ErrLong)
	long[0]++
	refused(t, "one byte more, with another head", long[:api.MaxStore+1], api.ErrLong)
	refused(t, "as many as may be, with another head", long[:api.MaxStore], api.ErrSnap)
	clear(long)
	refused(t, "zeros, one more", long[:api.MaxStore+1], api.ErrLong)
	refused(t, "zeros", long[:api.MaxStore], api.ErrSnap)
	b := told(known, whole)
	taken(t, "as many as may be", b, known, whole)
	b[api.MaxStore-1]++
	refused(t, "as many as may be, with another sum", b, api.ErrSum)
}

func TestDecodeTooShort(t *testing.T) {
	whole := told(known, nil)
	for n := range bare {
		refused(t, "a beginning", whole[:n], api.ErrSnap)
		refused(t, "an end", whole[bare-n:], api.ErrSnap)
		refused(t, "zeros", make([]byte, n), api.ErrSnap)
		if n >= 4 {
			refused(t, "too short, with the right sum", binary.LittleEndian.AppendUint32(slices.Clone(whole[:n-4]), slow(whole[:n-4])), api.ErrSnap)
		}
	}
	refused(t, "no bytes", nil, api.ErrSnap)
}

// Each byte of the head another one, with the right sum, with the one that was there, and with another one.
func TestDecodeOtherHeads(t *testing.T) {
	for _, l := range [][]entry{nil, mixed()} {
		whole := string(told(known, l))
		n := len(whole) - 4
		for i := range len(head) {
			for c := range 256 {
				b := []byte(whole)
				if b[i] == byte(c) {
					continue
				}
				b[i] = byte(c)
				refused(t, "another head, the old sum", b, api.ErrSnap)
				binary.LittleEndian.PutUint32(b[n:], slow(b[:n]))
				refused(t, "another head, the right sum", b, api.ErrSnap)
				b[n]++
				refused(t, "another head, a wrong sum", b, api.ErrSnap)
			}
		}
		for _, s := range []string{"millpond\x01", "MILLPOND\x00", "MILLPOND\x02", "MILLPOND1", "ILLPOND\x01M", "REDIS0011"} {
			b := []byte(s + whole[len(head):n])
			refused(t, s, binary.LittleEndian.AppendUint32(b, slow(b)), api.ErrSnap)
		}
	}
}

func TestDecodeOtherSums(t *testing.T) {
	for _, l := range [][]entry{nil, row(stay("k", str("v"))), mixed()} {
		b := told(known, l)
		n := len(b) - 4
		for bit := range 32 {
			b[n+bit/8] ^= 1 << (bit % 8)
			refused(t, "a bit of the sum turned", b, api.ErrSum)
			b[n+bit/8] ^= 1 << (bit % 8)
		}
		sum := binary.LittleEndian.Uint32(b[n:])
		for _, other := range []uint32{0, ^sum, sum + 1, sum - 1, sum << 16, math.MaxUint32, slow(b)} {
			refused(t, "another sum", binary.LittleEndian.AppendUint32(slices.Clone(b[:n]), other), api.ErrSum)
		}
		refused(t, "the highest byte first", binary.BigEndian.AppendUint32(slices.Clone(b[:n]), sum), api.ErrSum)
		refused(t, "the sum of what stands behind the head", append(slices.Clone(b[:n]), little(uint64(slow(b[len(head):n])), 4)...), api.ErrSum)
		for i := len(head); i < n; i++ {
			was := b[i]
			for c := range 256 {
				if b[i] = byte(c); b[i] != was {
					refused(t, "another byte, the old sum", b, api.ErrSum)
				}
			}
			b[i] = was
		}
		taken(t, "as it was", b, known, l)
	}
}

// A wrong sum stands ahead of all that is wrong between the head and it.
func TestDecodeTheSumComesFirst(t *testing.T) {
	for _, s := range []string{body(api.History{}, nil), body(known, wrongs()["an empty list"]), strings.Repeat("x", 20), strings.Repeat("\xff", 200)} {
		b := sealed(s)
		refused(t, "with the right sum", b, api.ErrSnap)
		b[len(b)-1]++
		refused(t, "with another sum", b, api.ErrSum)
	}
}

// behind is a body of one entry, of which the given bytes are all behind how many there are.
func behind(parts ...string) string {
	return little(1, 8) + little(0, 8) + little(1, 4) + strings.Join(parts, "")
}

// noSnapshot holds that a body with the right head and sum is no snapshot's.
func noSnapshot(t *testing.T, name, s string) {
	t.Helper()
	if _, _, ok := read(sealed(s)); ok {
		t.Fatalf("%s: the model takes %q", name, s)
	}
	refused(t, name, sealed(s), api.ErrSnap)
}

// isSnapshot holds that a body with the right head and sum is that of known and of some entries.
func isSnapshot(t *testing.T, name, s string, l ...entry) {
	t.Helper()
	taken(t, name, sealed(s), known, l)
}

func TestDecodeHistoriesThatMayNotBe(t *testing.T) {
	for _, l := range [][]entry{nil, mixed()} {
		rest := body(known, l)[16:]
		for _, offset := range []int{0, 1, api.MaxOffset} {
			noSnapshot(t, "ID 0", little(0, 8)+little(uint64(offset), 8)+rest)
			taken(t, "an offset", sealed(little(1, 8)+little(uint64(offset), 8)+rest), api.History{ID: 1, Offset: offset}, l)
		}
		for _, offset := range []int{least, least + 1, -api.MaxOffset, -1, api.MaxOffset + 1, 1 << 62, greatest} {
			noSnapshot(t, "an offset that may not be", little(1, 8)+little(uint64(offset), 8)+rest)
			noSnapshot(t, "ID 0, and an offset that may not be", little(0, 8)+little(uint64(offset), 8)+rest)
		}
	}
}

func TestDecodeOtherCountsOfEntries(t *testing.T) {
	for _, l := range [][]entry{nil, entries(1), mixed(), entries(256), entries(300)} {
		s := body(known, l)
		for _, n := range []int{len(l) - 1, len(l) + 1, len(l) + 256, len(l) + 1<<16, len(l) + 1<<24, 1 << 31, 1<<31 - 1, 1<<32 - 1, 1<<32 - 2, api.MaxKeys, api.MaxKeys + 1} {
			if n >= 0 {
				noSnapshot(t, "another count", s[:16]+little(uint64(n), 4)+s[20:])
			}
		}
		for n := range len(l) {
			noSnapshot(t, "too low a count", s[:16]+little(uint64(n), 4)+s[20:])
		}
	}
}

func TestDecodeTooManyEntries(t *testing.T) {
	l := entries(api.MaxKeys)
	isSnapshot(t, "the most entries", body(known, l), l...)
	noSnapshot(t, "one more", body(known, entries(api.MaxKeys+1)))
	noSnapshot(t, "one more, in no order", body(known, append(l, stay("", str("")))))
}

func TestDecodeBytesThatAreLeft(t *testing.T) {
	for _, l := range [][]entry{nil, row(stay("k", str("v"))), mixed()} {
		s := body(known, l)
		for _, more := range []string{"\x00", "\x01", "\xff", "\x00\x00\x00\x00", "MILLPOND", entryBytes(stay("zz", str("v"))), string(sealed(s)), little(uint64(slow(sealed(s))), 4)} {
			noSnapshot(t, "bytes behind the last entry", s+more)
		}
		noSnapshot(t, "bytes ahead of all", "\x00"+s)
	}
}

// Each kind's number with what another kind's value has, too.
func TestDecodeKindsThatAreNone(t *testing.T) {
	for kind := range 256 {
		for _, v := range []api.Value{str(""), str("v"), list("a"), set("a", "b"), zset(sc("a", 1)), hash(fi("a", "b"))} {
			e := stay("k", v)
			s := behind(entryBytes(e))
			s = s[:20] + little(uint64(kind), 1) + s[21:]
			switch h, l, ok := read(sealed(s)); {
			case kind == int(v.Kind):
				isSnapshot(t, "its own kind", s, e)
			case ok:
				taken(t, "another kind", sealed(s), h, l)
			default:
				noSnapshot(t, "another kind", s)
			}
		}
		if kind < 1 || kind > 5 {
			for _, rest := range []string{"", "\x00", "\x00\x00\x00\x00", "\x01\x00\x00\x00\x01\x00\x00\x00a"} {
				noSnapshot(t, "no kind", behind(little(uint64(kind), 1), little(0, 8), textBytes("k"), rest))
			}
		}
	}
}

func TestDecodeEnds(t *testing.T) {
	for _, at := range []int{api.Never, 0, 1, 1 << 32, api.MaxTime - 1, api.MaxTime} {
		for _, v := range values() {
			e := ends("k", v, at)
			isSnapshot(t, "an end", behind(entryBytes(e)), e)
		}
	}
	for _, at := range []int{least, least + 1, -api.MaxTime, -256, -3, -2, api.MaxTime + 1, 2 * api.MaxTime, 1<<32<<9 - 1, greatest - 1, greatest} {
		for _, v := range values() {
			noSnapshot(t, "an end that may not be", behind(entryBytes(ends("k", v, at))))
		}
	}
}

// lengths are those that a number of 4 bytes may tell in the place of n.
func lengths(n int) []int {
	l := []int{n - 1, n + 1, n + 2, n + 4, n + 256, n + 1<<16, n + 1<<24, 1 << 31, 1<<31 - 1, 1<<32 - 1, 1<<32 - 4, 1 << 16, 1<<16 + 1}
	return slices.DeleteFunc(l, func(x int) bool { return x < 0 })
}

// Each length of a text, with others in its place: of keys, strings, items, members, fields and their values. Which of them are snapshots all the same the model knows.
func TestDecodeOtherLengths(t *testing.T) {
	refusals := 0
	for _, l := range [][]entry{mixed(), row(stay("k", str("v"))), row(stay("k", list("a", "b"))), row(stay("k", set("a", "b"))), row(stay("k", zset(sc("a", 1), sc("b", 2)))), row(stay("k", hash(fi("a", "b"), fi("c", "d"))))} {
		s := body(known, l)
		for i := 20; i+4 <= len(s); i++ {
			n := int(binary.LittleEndian.Uint32([]byte(s[i:])))
			if n > 100 {
				continue
			}
			for _, other := range lengths(n) {
				b := sealed(s[:i] + little(uint64(other), 4) + s[i+4:])
				if h, l, ok := read(b); ok {
					taken(t, "another length", b, h, l)
					continue
				}
				refused(t, "another length", b, api.ErrSnap)
				refusals++
			}
		}
	}
	if refusals < 500 {
		t.Errorf("%d lengths were refused", refusals)
	}
}

func TestDecodeLengthsOfTexts(t *testing.T) {
	start := little(1, 1) + little(0, 8)
	isSnapshot(t, "right", behind(start, textBytes("k"), textBytes("abc")), ends("k", str("abc"), 0))
	for _, n := range lengths(3) {
		noSnapshot(t, "a string's length", behind(start, textBytes("k"), little(uint64(n), 4), "abc"))
		noSnapshot(t, "a key's length", behind(start, little(uint64(n), 4), "key", textBytes("")))
		noSnapshot(t, "an item's length", behind(little(2, 1), little(0, 8), textBytes("k"), little(1, 4), little(uint64(n), 4), "abc"))
		noSnapshot(t, "a second item's length", behind(little(2, 1), little(0, 8), textBytes("k"), little(2, 4), textBytes("x"), little(uint64(n), 4), "abc"))
		noSnapshot(t, "a member's length", behind(little(3, 1), little(0, 8), textBytes("k"), little(1, 4), little(uint64(n), 4), "abc"))
		noSnapshot(t, "a scored member's length", behind(little(4, 1), little(0, 8), textBytes("k"), little(1, 4), little(uint64(n), 4), "abc", little(1, 8)))
		noSnapshot(t, "a field's length", behind(little(5, 1), little(0, 8), textBytes("k"), little(1, 4), little(uint64(n), 4), "abc", textBytes("")))
		noSnapshot(t, "the length of a field's value", behind(little(5, 1), little(0, 8), textBytes("k"), little(1, 4), textBytes(""), little(uint64(n), 4), "abc"))
	}
	for _, s := range []string{most, most[:api.MaxBulk-1]} {
		isSnapshot(t, "the longest", behind(start, textBytes(s), textBytes(s)), ends(s, str(s), 0))
	}
	for _, s := range []string{over, over + over} {
		noSnapshot(t, "too long a string", behind(start, textBytes("k"), textBytes(s)))
		noSnapshot(t, "too long a key", behind(start, textBytes(s), textBytes("v")))
	}
}

func TestDecodeOtherCounts(t *testing.T) {
	for kind, part := range map[int]string{2: textBytes("a"), 3: textBytes("a"), 4: textBytes("a") + little(1, 8), 5: textBytes("a") + textBytes("b")} {
		start := little(uint64(kind), 1) + little(0, 8) + textBytes("k")
		if b := sealed(behind(start, little(1, 4), part)); !taking(b) {
			t.Errorf("kind %d: one part is refused", kind)
		}
		for _, n := range append(lengths(1), api.MaxLen-1) {
			noSnapshot(t, "another count", behind(start, little(uint64(n), 4), part))
		}
		noSnapshot(t, "a collection of none", behind(start, little(0, 4)))
		noSnapshot(t, "a count alone", behind(start, little(1, 4)))
		noSnapshot(t, "the greatest count alone", behind(start, little(1<<32-1, 4)))
	}
}

// taking tells whether some bytes are decoded.
func taking(b []byte) bool {
	_, l, e := snapshot.Decode(b)
	return len(l) > 0 && e == api.OK
}

func TestDecodeTooManyParts(t *testing.T) {
	for _, n := range []int{api.MaxLen, api.MaxLen + 1} {
		for _, v := range []api.Value{list(many(n)...), list(slices.Repeat([]string{""}, n)...), set(many(n)...), zset(scored(n)...), hash(fields(n)...)} {
			s := behind(entryBytes(stay("k", v)))
			if n == api.MaxLen {
				isSnapshot(t, "the most parts", s, stay("k", v))
			} else {
				noSnapshot(t, "one part more", s)
			}
		}
	}
}

// The body cut at each of its bytes, and one byte less at each place, with the right sum.
func TestDecodeBodiesThatAreCut(t *testing.T) {
	for _, l := range [][]entry{nil, mixed(), row(stay("k", zset(sc("a", 1)))), row(stay("k", hash(fi("a", ""))))} {
		s := body(known, l)
		for i := range len(s) {
			noSnapshot(t, "cut", s[:i])
			b := sealed(s[:i] + s[i+1:])
			if h, l, ok := read(b); ok {
				taken(t, "one byte less", b, h, l)
			} else {
				refused(t, "one byte less", b, api.ErrSnap)
			}
		}
	}
}

// All that image.Check has an error for, told as if it were an image; but kinds that a byte cannot tell, and what the bytes do not say.
func TestDecodeOfNoImage(t *testing.T) {
	t.Parallel()
	for name, l := range wrongs() {
		h, is, ok := read(told(known, l))
		if ok {
			taken(t, name, told(known, l), h, is) // what is beside that which the kind has is not told
			continue
		}
		noSnapshot(t, name, body(known, l))
		noSnapshot(t, name+", with an entry ahead", body(known, append(row(stay("", list("x"))), l...)))
	}
	for name, v := range map[string]api.Value{
		"members out of order":          set("a", "c", "b"),
		"members by signed bytes":       set("\xff", "a"),
		"a set's member twice":          set("a", "b", "b"),
		"scored members by texts":       zset(sc("a", 3), sc("b", 2)),
		"scores alike, texts fall":      zset(sc("b", 3), sc("a", 3)),
		"scores as if none were below":  zset(sc("a", 0), sc("b", -1)),
		"a scored member twice":         zset(sc("a", 1), sc("a", 2)),
		"a scored member twice, apart":  zset(sc("a", -1), sc("b", 0), sc("a", 2)),
		"fields out of order":           hash(fi("b", ""), fi("a", "")),
		"a field twice":                 hash(fi("a", "1"), fi("a", "2")),
		"a field twice, with one value": hash(fi("a", "1"), fi("a", "1")),
	} {
		noSnapshot(t, name, behind(entryBytes(stay("k", v))))
		noSnapshot(t, name+", behind another entry", body(known, row(stay("a", str("")), stay("k", v))))
		noSnapshot(t, name+", ahead of another entry", body(known, row(stay("k", v), stay("z", str("")))))
	}
	for name, l := range map[string][]entry{
		"keys out of order":    row(stay("b", str("")), stay("a", str(""))),
		"keys by signed bytes": row(stay("\x80", str("")), stay("a", str(""))),
		"a key twice":          row(stay("a", str("")), stay("a", list("b"))),
		"the empty key second": row(stay("a", str("")), stay("", str(""))),
	} {
		noSnapshot(t, name, body(known, l))
	}
}

// Counts that claim more than there is, at many places: all are answered, and soon.
func TestDecodeCountsThatClaimMuch(t *testing.T) {
	most := little(1<<32-1, 4)
	for _, s := range []string{
		little(1, 8) + little(0, 8) + most,
		little(1, 8) + little(0, 8) + most + entryBytes(stay("k", str("v"))),
		behind(strings.Repeat("\xff", 1000)),
		behind(little(2, 1), little(0, 8), textBytes("k"), most, strings.Repeat(textBytes(""), 1<<20)),
		behind(little(3, 1), little(0, 8), textBytes("k"), most, strings.Repeat(textBytes(""), 1<<20)),
		behind(little(4, 1), little(0, 8), textBytes("k"), most, strings.Repeat(textBytes("")+little(1, 8), 1<<20)),
		behind(little(5, 1), little(0, 8), textBytes("k"), most, strings.Repeat(textBytes(""), 1<<20)),
		little(1, 8) + little(0, 8) + most + strings.Repeat(entryBytes(stay("", str(""))), 1<<18),
		behind(little(1, 1), little(0, 8), most),
		behind(little(1, 1), little(0, 8), textBytes("k"), most),
	} {
		refused(t, "a claim", sealed(s), api.ErrSnap)
	}
}

// No room is taken up for what a count claims, nor for more parts than may be, also where they are there.
func TestDecodeTakesNoRoomAhead(t *testing.T) {
	for _, n := range []uint64{api.MaxLen, 1 << 20, 1 << 31, 1<<32 - 1} {
		b := sealed(behind(little(2, 1), little(0, 8), textBytes("k"), little(n, 4)))
		if n > api.MaxLen {
			b = sealed(behind(little(2, 1), little(0, 8), textBytes("k"), little(n, 4), strings.Repeat(textBytes(""), 1<<20)))
		}
		var before, behind runtime.MemStats
		runtime.ReadMemStats(&before)
		snapshot.Decode(b)
		runtime.ReadMemStats(&behind)
		if got := behind.TotalAlloc - before.TotalAlloc; got > 1<<16 {
			t.Errorf("a count of %d takes up %d bytes", n, got)
		}
	}
}
