package snapshot_test

import (
	"slices"
	"testing"

	"millpond/api"
	"millpond/image"
	"millpond/snapshot"
)

// P20.4: there and back

// thereAndBack holds Encode, Size and Decode of a history and an image against one another, and against the model.
func thereAndBack(t *testing.T, h api.History, l []entry) []byte {
	t.Helper()
	b := encoded(t, h, l)
	if size, e := snapshot.Size(l); size != len(b) || e != api.OK {
		t.Fatalf("Size(%s) = %d, %v, want %d", brief(l), size, e, len(b))
	}
	is, got, e := snapshot.Decode(b)
	if want := (api.History{ID: h.ID, Offset: h.Offset}); is != want || !image.Same(got, l) || e != api.OK {
		t.Fatalf("Decode(Encode(%+v, %s)) = %+v, %s, %v", h, brief(l), is, brief(got), e)
	}
	encoded(t, is, got)
	return b
}

func TestThereAndBack(t *testing.T) {
	m := newMaker(1)
	for range 4000 {
		thereAndBack(t, m.history(), m.image(6, 5, 4))
	}
	for range 300 {
		thereAndBack(t, m.history(), m.image(60, 20, 300))
	}
}

func TestThereAndBackOfGreatStores(t *testing.T) {
	t.Parallel()
	m := newMaker(2)
	for range 4 {
		thereAndBack(t, m.history(), m.image(2000, 40, 12))
		thereAndBack(t, m.history(), m.image(3, 60000, 9))
		thereAndBack(t, m.history(), m.image(40, 5, api.MaxBulk))
	}
}

// Many stores of few bytes: each two of them have other bytes.
func TestEachStoreHasBytesOfItsOwn(t *testing.T) {
	m := newMaker(3)
	texts, bytes := map[string]string{}, map[string]string{}
	for range 20000 {
		h, l := api.History{ID: uint64(1 + m.IntN(2)), Offset: m.IntN(2)}, m.image(2, 2, 1)
		b := string(encoded(t, h, l))
		text, _ := image.Text(l)
		text += little(h.ID, 8) + little(uint64(h.Offset), 8)
		if was, there := texts[b]; there && was != text {
			t.Fatalf("%q is told of %q and of %q", b, was, text)
		}
		if was, there := bytes[text]; there && was != b {
			t.Fatalf("of %q are told %q and %q", text, was, b)
		}
		texts[b], bytes[text] = text, b
	}
}

// heldAgainst holds Decode of a body with the right head and sum against the model, and what is decoded against Encode.
func heldAgainst(t *testing.T, s string) bool {
	t.Helper()
	b := sealed(s)
	want, image, ok := read(b)
	if !ok {
		refused(t, "drawn", b, api.ErrSnap)
		return false
	}
	taken(t, "drawn", b, want, image)
	h, l, _ := snapshot.Decode(b)
	if again, e := snapshot.Encode(h, l); string(again) != string(b) || e != api.OK {
		t.Fatalf("Decode(%q) is encoded as %q, %v", b, again, e)
	}
	return true
}

// Bodies near those of images: some of them are snapshots, some are not.
func TestOnlyWhatEncodeTellsIsDecoded(t *testing.T) {
	t.Parallel()
	m := newMaker(4)
	decoded := 0
	const rounds = 60000
	for range rounds {
		if heldAgainst(t, m.bent(body(m.history(), m.image(4, 4, 3)))) {
			decoded++
		}
	}
	if decoded < rounds/50 || decoded > rounds/2 {
		t.Errorf("%d of %d were snapshots", decoded, rounds)
	}
}

// Bytes drawn at will, most of them low.
func TestDrawnBytes(t *testing.T) {
	t.Parallel()
	m := newMaker(5)
	for range 40000 {
		b := drawn(m.Rand, m.IntN(120))
		for i := range b {
			if m.IntN(4) > 0 {
				b[i] = byte(m.IntN(3))
			}
		}
		heldAgainst(t, string(b))
	}
}

// Each byte of a body each other one, with the right sum.
func TestEachByteOfABody(t *testing.T) {
	s := []byte(body(known, mixed()))
	for i, was := range s {
		for c := range 256 {
			s[i] = byte(c)
			heldAgainst(t, string(s))
		}
		s[i] = was
	}
}

// P20.5: spoilt

func TestSpoiltSnapshotsAreRefused(t *testing.T) {
	m := newMaker(6)
	images := [][]entry{nil, row(stay("", str(""))), mixed()}
	for range 6 {
		images = append(images, m.image(5, 4, 5))
	}
	for _, l := range images {
		b := encoded(t, m.history(), l)
		for i, was := range b {
			for c := range 256 {
				if b[i] = byte(c); b[i] == was {
					continue
				}
				want := api.ErrSum
				if i < len(head) {
					want = api.ErrSnap
				}
				refused(t, "one byte another one", b, want)
			}
			b[i] = was
		}
	}
}

func TestSnapshotsThatAreCutAreRefused(t *testing.T) {
	m := newMaker(7)
	for range 30 {
		b := encoded(t, m.history(), m.image(6, 5, 20))
		for n := range b {
			want := api.ErrSum
			if n < bare {
				want = api.ErrSnap
			}
			if _, _, e := snapshot.Decode(b[:n]); e != want {
				t.Fatalf("%d bytes of %q: %v, want %v", n, b, e, want)
			}
			refused(t, "a beginning", b[:n], want)
			refused(t, "an end", b[n+1:], api.ErrSnap)
		}
	}
}

// A snapshot that was spoilt at chance in great stores.
func TestGreatSnapshotsSpoilt(t *testing.T) {
	t.Parallel()
	m := newMaker(8)
	b := encoded(t, known, m.image(300, 300, 30))
	for range 200 {
		i, bit := m.IntN(len(b)), byte(1)<<m.IntN(8)
		b[i] ^= bit
		if _, l, e := snapshot.Decode(b); l != nil || e != api.ErrSum && (e != api.ErrSnap || i >= len(head)) {
			t.Fatalf("bit %d of byte %d turned: %d entries, %v", bit, i, len(l), e)
		}
		b[i] ^= bit
		if _, l, e := snapshot.Decode(b[:i]); l != nil || e != api.ErrSum && (e != api.ErrSnap || i >= bare) {
			t.Fatalf("cut at %d: %d entries, %v", i, len(l), e)
		}
	}
	// Two snapshots one behind the other are none, nor is one with bytes of another in its midst.
	refused(t, "twice", append(slices.Clone(b), b...), api.ErrSum)
}
