package snapshot_test

import (
	"hash/crc32"
	"math/rand/v2"
	"testing"

	"millpond/snapshot"
)

// P20.1, P20.6

// slow is the sum as the chapter's words tell it, bit by bit.
func slow(b []byte) uint32 {
	n := uint32(0xffffffff)
	for _, c := range b {
		n ^= uint32(c)
		for range 8 {
			out := n & 1
			n >>= 1
			if out == 1 {
				n ^= 0xedb88320
			}
		}
	}
	return n ^ 0xffffffff
}

// drawn are n bytes by chance.
func drawn(m *rand.Rand, n int) []byte {
	b := make([]byte, n)
	for i := range b {
		b[i] = byte(m.Uint32())
	}
	return b
}

func TestSumOfNothing(t *testing.T) {
	for _, l := range [][][]byte{nil, {}, {nil}, {{}}, {nil, nil}, {{}, nil, {}}} {
		if is := snapshot.Sum(l...); is != 0 {
			t.Errorf("Sum(%v) = %x, want 0", l, is)
		}
	}
	if is := snapshot.Sum(); is != 0 {
		t.Errorf("Sum() = %x, want 0", is)
	}
}

// Sums that were worked out elsewhere.
func TestSumsThatAreKnown(t *testing.T) {
	for s, want := range map[string]uint32{
		"123456789":      0xcbf43926,
		"a":              0xe8b7be43,
		"abc":            0x352441c2,
		"message digest": 0x20159d7f,
		"\x00":           0xd202ef8d,
		"\xff":           0xff000000,
		"\x00\x00\x00\x00\x00\x00\x00\x00\x00\x00\x00\x00\x00\x00\x00\x00\x00\x00\x00\x00\x00\x00\x00\x00\x00\x00\x00\x00\x00\x00\x00\x00": 0x190a55ad,
		"\xff\xff\xff\xff": 0xffffffff,
		"The quick brown fox jumps over the lazy dog": 0x414fa339,
	} {
		if is := snapshot.Sum([]byte(s)); is != want {
			t.Errorf("Sum(%q) = %x, want %x", s, is, want)
		}
	}
}

func TestSumOfEachByte(t *testing.T) {
	for c := range 256 {
		for _, ahead := range []string{"", "\x00", "\xff", "ab"} {
			b := append([]byte(ahead), byte(c))
			if is, want := snapshot.Sum(b), slow(b); is != want {
				t.Errorf("Sum(%q) = %x, want %x", b, is, want)
			}
		}
	}
}

func TestSumsOfLongRows(t *testing.T) {
	m := rand.New(rand.NewPCG(20, 1))
	for _, n := range []int{1, 2, 3, 4, 5, 6, 7, 8, 9, 255, 256, 257, 65535, 65536, 1 << 20} {
		for _, b := range [][]byte{drawn(m, n), make([]byte, n)} {
			is, want := snapshot.Sum(b), slow(b)
			if is != want || want != crc32.ChecksumIEEE(b) {
				t.Errorf("Sum of %d bytes = %x, want %x", n, is, want)
			}
		}
	}
}

// Each way to cut bytes into two and three rows, empty ones among them, and into rows of one byte.
func TestSumHangsOnNoCuts(t *testing.T) {
	b := []byte("MILLPOND\x01\x00\xff and more bytes\r\n")
	want := slow(b)
	sum := func(l ...[]byte) {
		t.Helper()
		if is := snapshot.Sum(l...); is != want {
			t.Fatalf("Sum(%q) = %x, want %x", l, is, want)
		}
	}
	for i := range len(b) + 1 {
		sum(b[:i], b[i:])
		sum(nil, b[:i], nil, []byte{}, b[i:], nil)
		for j := i; j <= len(b); j++ {
			sum(b[:i], b[i:j], b[j:])
		}
	}
	var single [][]byte
	for i := range b {
		single = append(single, b[i:i+1])
	}
	sum(single...)
}

func TestSumHangsOnNoCutsOfLongRows(t *testing.T) {
	m := rand.New(rand.NewPCG(20, 6))
	for range 200 {
		b := drawn(m, m.IntN(5000))
		want := slow(b)
		var l [][]byte
		for rest := b; len(rest) > 0; {
			n := m.IntN(min(len(rest), 700) + 1)
			l = append(l, rest[:n])
			rest = rest[n:]
		}
		if is := snapshot.Sum(l...); is != want {
			t.Fatalf("Sum of %d rows = %x, want %x", len(l), is, want)
		}
	}
}

// Rows stand behind one another as they are handed in, not in another order, and each counts, also if it is the same one.
func TestSumOfRowsInTheirOrder(t *testing.T) {
	a, b := []byte("ab"), []byte("cde")
	for _, l := range [][][]byte{{a, b}, {b, a}, {a, a}, {b, b, b}, {a, b, a}} {
		var all []byte
		for _, x := range l {
			all = append(all, x...)
		}
		if is, want := snapshot.Sum(l...), slow(all); is != want {
			t.Errorf("Sum(%q) = %x, want %x", l, is, want)
		}
	}
}

// Each bit of rows, turned.
func TestSumsOfRowsThatDifferInOneBit(t *testing.T) {
	m := rand.New(rand.NewPCG(20, 60))
	for _, n := range []int{1, 2, 3, 4, 5, 8, 9, 31, 64, 700} {
		for _, b := range [][]byte{drawn(m, n), make([]byte, n)} {
			was := snapshot.Sum(b)
			for bit := range 8 * n {
				b[bit/8] ^= 1 << (bit % 8)
				if is := snapshot.Sum(b); is == was || is != crc32.ChecksumIEEE(b) {
					t.Fatalf("%d bytes, bit %d turned: %x behind %x", n, bit, is, was)
				}
				b[bit/8] ^= 1 << (bit % 8)
			}
			if is := snapshot.Sum(b); is != was {
				t.Fatalf("Sum = %x, then %x", was, is)
			}
		}
	}
}
