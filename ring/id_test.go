package ring_test

import (
	"fmt"
	"math/rand/v2"
	"strings"
	"testing"

	"millpond/api"
	"millpond/ring"
)

// P19.5: Text

func TestText(t *testing.T) {
	for id, want := range map[uint64]string{
		0:                  "0000000000000000",
		1:                  "0000000000000001",
		9:                  "0000000000000009",
		10:                 "000000000000000a",
		15:                 "000000000000000f",
		16:                 "0000000000000010",
		255:                "00000000000000ff",
		0x0123456789abcdef: "0123456789abcdef",
		0xfedcba9876543210: "fedcba9876543210",
		1 << 63:            "8000000000000000",
		mostID:             "ffffffffffffffff",
	} {
		if is := ring.Text(id); is != want {
			t.Errorf("Text(%d) = %q, want %q", id, is, want)
		}
	}
}

func TestTextOfEachBit(t *testing.T) {
	for bit := range 64 {
		place := 15 - bit/4
		want := strings.Repeat("0", place) + "1248"[bit%4:bit%4+1] + strings.Repeat("0", 15-place)
		if is := ring.Text(1 << bit); is != want {
			t.Errorf("Text(1 << %d) = %q, want %q", bit, is, want)
		}
	}
}

// P19.5: Read

func TestReadWhatTextTells(t *testing.T) {
	ids := []uint64{1, 9, 10, 15, 16, 255, 1 << 63, mostID, mostID - 1, 0x0123456789abcdef}
	m := rand.New(rand.NewPCG(19, 5))
	for bit := range 64 {
		ids = append(ids, 1<<bit, ^(1 << bit), m.Uint64()>>bit|1)
	}
	for _, id := range ids {
		if want := fmt.Sprintf("%016x", id); ring.Text(id) != want {
			t.Errorf("Text(%d) = %q, want %q", id, ring.Text(id), want)
		}
		if is, e := ring.Read(ring.Text(id)); is != id || e != api.OK {
			t.Errorf("Read(Text(%d)) = %d, %v", id, is, e)
		}
	}
}

func TestReadNoID(t *testing.T) {
	for _, s := range []string{
		"", "0", "1", "0000000000000000", "000000000000001", "00000000000000001", "ffffffffffffffff0", "0ffffffffffffffff", "fffffffffffffff",
		"000000000000000A", "FFFFFFFFFFFFFFFF", " 000000000000001", "000000000000001 ", "+000000000000001", "-000000000000001",
		"0x00000000000001", "0000_0000_000001", "000000000000001\n", "00000000000000\r\n", "ééééêêêê", "0000000000000é", "?", "-1",
		strings.Repeat("1", 32), strings.Repeat("1", 1<<20), strings.Repeat("\x00", 16), strings.Repeat("g", 16),
	} {
		if id, e := ring.Read(s); id != 0 || e != api.ErrID {
			t.Errorf("Read of %.40q = %d, %v", s, id, e)
		}
	}
}

// Each byte at each place of an ID's text: just the 16 digits may stand there.
func TestReadEachByteAtEachPlace(t *testing.T) {
	for place := range 16 {
		for c := range 256 {
			b := []byte("1000000000000001")
			b[place] = byte(c)
			if place == 0 {
				b[15] = '2'
			}
			id, e := ring.Read(string(b))
			if !strings.ContainsRune("0123456789abcdef", rune(c)) {
				if id != 0 || e != api.ErrID {
					t.Errorf("Read(%q) = %d, %v", b, id, e)
				}
			} else if e != api.OK || fmt.Sprintf("%016x", id) != string(b) {
				t.Errorf("Read(%q) = %d, %v", b, id, e)
			}
		}
	}
}

// A text that is one byte shorter or longer than an ID's, at each place.
func TestReadOtherLengths(t *testing.T) {
	const id = "0123456789abcdef"
	for place := range 16 {
		for _, s := range []string{id[:place] + id[place+1:], id[:place] + "0" + id[place:], id[:place]} {
			if n, e := ring.Read(s); n != 0 || e != api.ErrID {
				t.Errorf("Read(%q) = %d, %v", s, n, e)
			}
		}
	}
}
