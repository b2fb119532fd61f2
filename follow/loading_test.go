package follow_test

import (
	"fmt"
	"math"
	"slices"
	"strconv"
	"strings"
	"testing"

	"millpond/api"
	"millpond/follow"
	"millpond/image"
	"millpond/snapshot"
)

// P21.3, FLoading, and P21.7

// nine is one that waits for a snapshot of the ID 9 at 70.
func nine(t *testing.T) *follow.Follow {
	t.Helper()
	return loading(t, "0000000000000009", 70)
}

// loads holds that some bytes end a snapshot of the ID 9 at 70.
func loads(t *testing.T, name string, f *follow.Follow, now int, s string, l []api.Entry) {
	t.Helper()
	takes(t, name, f, now, s, api.Took{Load: true, H: api.History{ID: 9, Offset: 70}, Img: l})
	stands(t, name, f, api.FStreaming, 70, now)
}

// images are some of no entries, of each kind, with ends and without.
func images(t *testing.T) [][]api.Entry {
	t.Helper()
	l := [][]api.Entry{nil, store}
	for _, v := range []api.Value{
		{Kind: api.KString}, {Kind: api.KString, S: "a\r\nb"}, {Kind: api.KString, S: long},
		{Kind: api.KList, L: []string{"", "b", "b", "a"}}, {Kind: api.KSet, L: []string{"", "\xff"}},
		{Kind: api.KZset, Z: []api.Scored{{M: "b", N: math.MinInt64}, {M: "a", N: math.MaxInt64}}}, {Kind: api.KHash, H: []api.Field{{F: "", V: ""}, {F: "f", V: "v"}}},
	} {
		for _, at := range []int{api.Never, 0, 1, api.MaxTime} {
			l = append(l, []api.Entry{{Key: "k", V: v, At: at}}, []api.Entry{stay("", v), {Key: "k", V: v, At: at}})
		}
	}
	for _, img := range l {
		if e := image.Check(img); e != api.OK {
			t.Fatalf("image.Check = %v", e)
		}
	}
	return l
}

func TestLoad(t *testing.T) {
	for _, l := range images(t) {
		s := sized(snap(t, 9, 70, l))
		for n := 0; n < len(s); n += 1 + len(s)/300 {
			f := nine(t)
			waits(t, "a beginning", f, s[:n])
			stands(t, "a beginning", f, api.FLoading, 0, unset)
			loads(t, "the rest", f, 1400, s[n:], l)
		}
	}
}

func TestLoadByteByByte(t *testing.T) {
	for _, l := range [][]api.Entry{nil, store} {
		f, s := nine(t), sized(snap(t, 9, 70, l))
		for n := range len(s) - 1 {
			waits(t, "byte by byte", f, s[n:n+1])
			stands(t, "byte by byte", f, api.FLoading, 0, unset)
		}
		loads(t, "byte by byte", f, 1000, s[len(s)-1:], l)
	}
}

func TestLoadOfEachHistory(t *testing.T) {
	for _, id := range []uint64{1, 255, 1 << 63, mostID} {
		for _, offset := range []int{0, 1, 70, api.MaxOffset} {
			f := loading(t, hex(id), offset)
			takes(t, "a snapshot", f, 1100, sized(snap(t, id, offset, store)), api.Took{Load: true, H: api.History{ID: id, Offset: offset}, Img: store})
			stands(t, "a snapshot", f, api.FStreaming, offset, 1100)
		}
	}
}

// Of its history a snapshot has ID and Offset alone.
func TestLoadHasNoElderID(t *testing.T) {
	b, e := snapshot.Encode(api.History{ID: 9, Offset: 70, Second: 4, Fork: 60}, store)
	if e != api.OK {
		t.Fatal(e)
	}
	loads(t, "a snapshot", nine(t), 1000, sized(string(b)), store)
}

// Lines that may not stand ahead of a snapshot drop the link when they are whole, whatever is behind them.
func TestWrongSizes(t *testing.T) {
	for _, line := range []string{
		"", "$", "$-1", "$-0", "$01", "$00", "$+1", "$033", "$ 33", "$33 ", "$x", "$3x", "$0x21", "$67108865", "$9223372036854775807", "$9223372036854775808", "$18446744073709551649", "$33\r", "$33\n", "\n$33", "$\n33",
		"33", "*33", "+33", "-33", ":33", "#33", " $33", "$$33", "+CONTINUE 0000000000000009", "+FULLRESYNC 0000000000000009 70", "MILLPOND\x01",
	} {
		s := line + "\r\n"
		drops(t, line, nine(t), s, 0)
		drops(t, line, nine(t), s+snap(t, 9, 70, nil), 0)
		for n := range s {
			f := nine(t)
			waits(t, line, f, s[:n])
			stands(t, line, f, api.FLoading, 0, unset)
			drops(t, line, f, s[n:], 0)
		}
		takes(t, line, asking(t, 3, 44), 1000, comesWhole("0000000000000009", 70)+s, api.Took{Empty: true, Drop: true})
	}
}

// As many bytes as the line tells are waited for, and then decoded: just those.
func TestSizes(t *testing.T) {
	whole := snap(t, 9, 70, nil)
	for n := range len(whole) + 9 {
		f, line := nine(t), "$"+strconv.Itoa(n)+"\r\n"
		switch bytes := (whole + "*1\r\n$1\r\nxyz")[:n]; {
		case n == 0:
			drops(t, "no bytes", f, line, 0)
		case n == len(whole):
			waits(t, "the line", f, line)
			waits(t, "all but one byte", f, bytes[:n-1])
			loads(t, "the last byte", f, 1000, bytes[n-1:], nil)
		default:
			waits(t, "the line", f, line)
			waits(t, "all but one byte", f, bytes[:n-1])
			stands(t, "all but one byte", f, api.FLoading, 0, unset)
			drops(t, "another number of bytes", f, bytes[n-1:], 0)
		}
	}
}

// What stands behind one byte fewer than there are is the stream's, and cut.
func TestSizeOneFewerInOneTake(t *testing.T) {
	whole := snap(t, 9, 70, store)
	for _, n := range []int{len(whole) - 1, len(whole) - 4, 33, 1, 0} {
		takes(t, "fewer", asking(t, 3, 44), 1000, comesWhole("0000000000000009", 70)+"$"+strconv.Itoa(n)+"\r\n"+whole, api.Took{Empty: true, Drop: true})
	}
	f := nine(t)
	waits(t, "one more", f, "$"+strconv.Itoa(len(whole)+1)+"\r\n"+whole)
	drops(t, "one more", f, cmd("DEL", "k"), 0)
}

// spoilt holds that a snapshot is refused when its last byte comes, and that of its store nothing is told.
func spoilt(t *testing.T, name, b string) {
	t.Helper()
	f, s := nine(t), sized(b)
	waits(t, name, f, s[:len(s)-1])
	drops(t, name, f, s[len(s)-1:], 0)
	f = asking(t, 3, 44)
	takes(t, name, f, 1000, comesWhole("0000000000000009", 70)+s+cmd("DEL", "k"), api.Took{Empty: true, Drop: true})
	stands(t, name, f, api.FIdle, 0, 1050)
}

func TestSpoiltSnapshots(t *testing.T) {
	whole := snap(t, 9, 70, store)
	for i := range whole {
		for _, turned := range []byte{whole[i] ^ 1, whole[i] ^ 128, whole[i] + 1, ^whole[i]} {
			spoilt(t, "byte "+strconv.Itoa(i), whole[:i]+string([]byte{turned})+whole[i+1:])
		}
		if i > 0 {
			spoilt(t, "cut at "+strconv.Itoa(i), whole[:i])
			spoilt(t, "begins at "+strconv.Itoa(i), whole[i:])
			spoilt(t, "a byte left out", whole[:i]+whole[i+1:])
			spoilt(t, "a byte put in", whole[:i]+"\x00"+whole[i:])
		}
	}
	body := whole[:len(whole)-4]
	for name, b := range map[string]string{
		"zeros": strings.Repeat("\x00", 40), "another head, the right sum": sealed("X" + body[1:]), "a version more, the right sum": sealed(body[:8] + "\x02" + body[9:]),
		"more behind the entries": sealed(body + "\x00"), "fewer entries than are told": sealed(body[:len(body)-1]), "an ID of 0": sealed(body[:9] + "\x00" + body[10:]),
		"an offset below 0": sealed(body[:24] + "\xff" + body[25:]), "an entry of no kind": sealed(body[:29] + "\x06" + body[30:]), "an entry fewer": sealed(body[:25] + "\x04" + body[26:]),
		"keys that fall": sealed(strings.Replace(body, "\x01\x00\x00\x00h", "\x01\x00\x00\x00z", 1)),
	} {
		spoilt(t, name, b)
	}
}

// Snapshots that are right but of another history than the line promised.
func TestOtherHistories(t *testing.T) {
	for _, h := range []api.History{{ID: 8, Offset: 70}, {ID: 10, Offset: 70}, {ID: 9 + 1<<32, Offset: 70}, {ID: mostID, Offset: 70}, {ID: 9, Offset: 0}, {ID: 9, Offset: 69}, {ID: 9, Offset: 71}, {ID: 9, Offset: 70 + 1<<32}, {ID: 9, Offset: api.MaxOffset}, {ID: 70, Offset: 9}, {ID: 5, Offset: 33}} {
		for _, l := range [][]api.Entry{nil, store} {
			spoilt(t, fmt.Sprintf("of %+v", h), snap(t, h.ID, h.Offset, l))
		}
	}
}

func TestBehindASnapshot(t *testing.T) {
	s, more := sized(snap(t, 9, 70, store)), cmd("SET", "k", "v")+cmd("DEL", "k")
	commands, h := [][]string{{"SET", "k", "v"}, {"DEL", "k"}}, api.History{ID: 9, Offset: 70}
	for _, n := range []int{0, 1, 5, 9, len(s) - 1} {
		f := nine(t)
		waits(t, "a beginning", f, s[:n])
		takes(t, "commands behind it", f, 1000, s[n:]+more, api.Took{Load: true, H: h, Img: store, Commands: commands, Bytes: []byte(more)})
		stands(t, "commands behind it", f, api.FStreaming, 70+len(more), 1000)
	}
	f := nine(t)
	takes(t, "half a command behind it", f, 1000, s+more[:9], api.Took{Load: true, H: h, Img: store})
	stands(t, "half a command behind it", f, api.FStreaming, 70, 1000)
	takes(t, "the rest of the commands", f, 1000, more[9:], api.Took{Commands: commands, Bytes: []byte(more)})

	f = nine(t)
	takes(t, "a cut behind it", f, 1000, s+more+"\r\n", api.Took{Load: true, H: h, Img: store, Commands: commands, Bytes: []byte(more), Drop: true})
	stands(t, "a cut behind it", f, api.FIdle, 70+len(more), 1050)

	f = nine(t)
	takes(t, "another snapshot behind it", f, 1000, s+s, api.Took{Load: true, H: h, Img: store, Drop: true})
	stands(t, "another snapshot behind it", f, api.FIdle, 70, 1050)

	f = asking(t, 3, 44)
	takes(t, "all at once", f, 1000, comesWhole("0000000000000009", 70)+s+more+"?", api.Took{Empty: true, Load: true, H: h, Img: store, Commands: commands, Bytes: []byte(more), Drop: true})
	stands(t, "all at once", f, api.FIdle, 70+len(more), 1050)
}

// ofSize is an image whose snapshot has so many bytes, some of which are those of a long list.
func ofSize(t *testing.T, n int) []api.Entry {
	t.Helper()
	const bare, item = 33 + 2*(1+8+4+1+4), 4 + api.MaxBulk
	rest := n - bare
	l := []api.Entry{
		stay("a", api.Value{Kind: api.KList, L: slices.Repeat([]string{long}, rest/item)}),
		stay("b", api.Value{Kind: api.KString, S: long[:rest%item]}),
	}
	if size, e := snapshot.Size(l); size != n || e != api.OK {
		t.Fatalf("a snapshot of %d bytes, %v, want %d", size, e, n)
	}
	return l
}

// A snapshot with as many bytes as may be, in pieces; one bit of its last piece but one turned.
func TestTheGreatestSnapshot(t *testing.T) {
	t.Parallel()
	l := ofSize(t, api.MaxStore)
	s := sized(snap(t, 9, 70, l))
	for _, turned := range []bool{false, true} {
		f, rest := nine(t), s
		for ; len(rest) > 1000; rest = rest[1000:] {
			piece := rest[:1000]
			if turned && len(rest) < 2000 {
				piece = piece[:999] + string([]byte{piece[999] ^ 1})
			}
			waits(t, "a piece", f, piece)
		}
		waits(t, "all but a byte", f, rest[:len(rest)-1])
		stands(t, "all but a byte", f, api.FLoading, 0, unset)
		if turned {
			drops(t, "spoilt", f, rest[len(rest)-1:], 0)
		} else {
			loads(t, "whole", f, 1000, rest[len(rest)-1:], l)
		}
	}
}
