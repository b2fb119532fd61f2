package lead_test

import (
	"slices"
	"strconv"
	"strings"
	"testing"

	"millpond/api"
	"millpond/image"
	"millpond/snapshot"
)

// P22.2

// kinds are numbers of links.
var kinds = []int{least, least + 1, -9, -1, 0, 1, 7, 8, 64, greatest - 1, greatest}

// comesWhole holds an answer of Psync by hand: the line, and how many bytes come, and that these are a snapshot of the store.
func comesWhole(t *testing.T, b string, id uint64, offset int, img []api.Entry) {
	t.Helper()
	line := "+FULLRESYNC " + idText(id) + " " + strconv.Itoa(offset) + "\r\n$"
	rest, ok := strings.CutPrefix(b, line)
	size, rest, cut := strings.Cut(rest, "\r\n")
	if !ok || !cut || size != strconv.Itoa(len(rest)) {
		t.Fatalf("Psync = %q, want %q and so on", brief(b), line)
	}
	h, l, e := snapshot.Decode([]byte(rest))
	if h != (api.History{ID: id, Offset: offset}) || !image.Same(l, img) || e != api.OK {
		t.Fatalf("Psync = %q, with a snapshot of %+v, %v", brief(b), h, e)
	}
}

// Bytes that are written out by hand.
func TestBytesOfPsync(t *testing.T) {
	p := made(t, 100, 1)
	want := "+FULLRESYNC 0000000000000001 0\r\n$33\r\n" + "MILLPOND\x01" + "\x01\x00\x00\x00\x00\x00\x00\x00" + "\x00\x00\x00\x00\x00\x00\x00\x00" + "\x00\x00\x00\x00" + "\x10\x70\x2a\x9e"
	for _, none := range [][]api.Entry{nil, {}} {
		if b, goesOn, e := p.psync(4, "?", "-1", none); b != want || goesOn || e != api.OK {
			t.Errorf("Psync = %q, %t, %v, want %q", b, goesOn, e, want)
		}
		p.link(4, 0, -1)
	}
	if b, goesOn, e := p.psync(5, "0000000000000001", "0", nil); b != "+CONTINUE 0000000000000001\r\n" || !goesOn || e != api.OK {
		t.Errorf("Psync = %q, %t, %v", b, goesOn, e)
	}
	p.link(5, 0, -1)
	p.ok(p.fork(0xfedcba9876543210))
	p.ok(p.raw("xyz"))
	if b, goesOn, e := p.psync(5, "0000000000000001", "0", nil); b != "+CONTINUE fedcba9876543210\r\n" || !goesOn || e != api.OK {
		t.Errorf("Psync = %q, %t, %v", b, goesOn, e)
	}
	p.sends(5, 9, "xyz")
	b, _, _ := p.psync(4, "0000000000000001", "1", store)
	comesWhole(t, b, 0xfedcba9876543210, 3, store)
}

func TestPsyncOfEachLink(t *testing.T) {
	for _, others := range []int{0, 1, api.MaxLinks - 2, api.MaxLinks - 1, api.MaxLinks} {
		for _, link := range kinds {
			for _, id := range []string{idText(7), idText(8), "?"} {
				p := made(t, 40, 7)
				p.ok(p.raw(text(30)))
				for other := range others {
					p.asks(1000-other*3, 7, other, true)
				}
				b, goesOn, e := p.psync(link, id, "30", store)
				switch {
				case others == api.MaxLinks:
					if b != "" || goesOn || e != api.ErrMany {
						t.Fatalf("Psync(%d) beside %d = %q, %t, %v", link, others, b, goesOn, e)
					}
				case id == idText(7):
					if b != "+CONTINUE 0000000000000007\r\n" || !goesOn || e != api.OK {
						t.Fatalf("Psync(%d) beside %d = %q, %t, %v", link, others, b, goesOn, e)
					}
					p.link(link, 30, -1)
				default:
					comesWhole(t, b, 7, 30, store)
					p.link(link, 30, -1)
				}
			}
		}
	}
}

// The number of links is looked at ahead of all else, but not of a link that is there.
func TestPsyncOfManyLinks(t *testing.T) {
	p := made(t, 40, 7)
	p.ok(p.raw(text(30)))
	for link := range api.MaxLinks {
		p.asks(link*2, 7, link, true)
		p.ok(p.ack(link*2, link))
	}
	for _, link := range []int{-1, 1, 15, 16, least, greatest} {
		for _, offset := range []string{"30", "0", "31", "x"} {
			for _, img := range [][]api.Entry{nil, store, noStore} {
				for _, id := range []string{idText(7), "?"} {
					_, _, e := p.psync(link, id, offset, img)
					p.refused(e, api.ErrMany)
				}
			}
		}
	}
	for link := range api.MaxLinks {
		p.link(link*2, link, link)
		p.asks(link*2, 7, 29, true)
		p.link(link*2, 29, -1)
		p.asks(link*2, 8, 29, false)
		p.link(link*2, 30, -1)
	}
	if !p.drop(6) {
		t.Error("Drop of a link that is there")
	}
	p.asks(5, 7, 30, true)
	_, _, e := p.psync(6, idText(7), "30", nil)
	p.refused(e, api.ErrMany)
}

// P22.2: who goes on

// from is an ID, and the offsets from one to another one that it goes on from; none, if the latter is less.
type from struct {
	id       uint64
	from, to int
}

// goOn holds from where on which IDs go on, and that others begin anew.
func goOn(p *pair, l ...from) {
	p.t.Helper()
	first, end := p.lead.Window()
	l = append(l, from{99, 0, -1}, from{mostID - 1, 0, -1})
	for _, x := range l {
		offsets := []int{least, -1, 0, 1, api.MaxOffset, api.MaxOffset + 1, greatest}
		for offset := first - 3; offset <= end+3; offset++ {
			offsets = append(offsets, offset)
		}
		for _, offset := range offsets {
			b, goesOn, e := p.psync(1, idText(x.id), strconv.Itoa(offset), store)
			if want := x.from <= offset && offset <= x.to; goesOn != want || e != api.OK {
				p.t.Fatalf("Psync(1, %d, %d) = %q, %t, %v", x.id, offset, brief(b), goesOn, e)
			}
			if !goesOn {
				comesWhole(p.t, b, p.model.h.ID, end, store)
				p.link(1, end, -1)
				continue
			}
			p.link(1, offset, -1)
			p.sends(1, greatest, p.model.there[offset-first:])
			p.link(1, end, -1)
		}
	}
}

func TestWhoGoesOn(t *testing.T) {
	p := made(t, 6, 10)
	goOn(p, from{10, 0, 0})
	p.ok(p.raw("abcd"))
	goOn(p, from{10, 0, 4})
	p.ok(p.raw("efghi"))
	goOn(p, from{10, 3, 9})
	p.ok(p.fork(11))
	goOn(p, from{10, 3, 9}, from{11, 3, 9})
	p.ok(p.raw("jk"))
	goOn(p, from{10, 5, 9}, from{11, 5, 11})
	p.ok(p.raw("lmno"))
	goOn(p, from{10, 9, 9}, from{11, 9, 15})
	p.ok(p.raw("p"))
	goOn(p, from{10, 0, -1}, from{11, 10, 16})
	p.ok(p.fork(12))
	p.ok(p.raw("q"))
	goOn(p, from{10, 0, -1}, from{11, 11, 16}, from{12, 11, 17})
}

func TestWhoGoesOnBehindTwoForks(t *testing.T) {
	p := made(t, 20, 10)
	p.ok(p.raw("abc"))
	p.ok(p.fork(11))
	p.ok(p.raw("de"))
	p.ok(p.fork(12))
	p.ok(p.raw("f"))
	goOn(p, from{10, 0, -1}, from{11, 0, 5}, from{12, 0, 6})
	p.ok(p.fork(11))
	p.ok(p.raw("g"))
	goOn(p, from{10, 0, -1}, from{11, 0, 7}, from{12, 0, 6})
}

func TestWhoGoesOnBehindFollow(t *testing.T) {
	p := made(t, 20, 10)
	p.ok(p.raw("abc"))
	p.ok(p.fork(11))
	p.ok(p.raw("de"))
	p.ok(p.follow(12, 40))
	goOn(p, from{10, 0, -1}, from{11, 0, -1}, from{12, 40, 40})
	p.ok(p.raw("xy"))
	p.ok(p.fork(13))
	p.ok(p.raw("z"))
	goOn(p, from{11, 0, -1}, from{12, 40, 42}, from{13, 40, 43})
	p.ok(p.follow(mostID, api.MaxOffset-2))
	p.ok(p.raw("ab"))
	goOn(p, from{12, 0, -1}, from{13, 0, -1}, from{mostID, api.MaxOffset - 2, api.MaxOffset})
}

// P22.2: texts that are none

func TestPsyncOfWhatIsNoID(t *testing.T) {
	p := made(t, 40, 0xabcdef)
	p.ok(p.raw(text(30)))
	right := idText(0xabcdef)
	for _, id := range []string{
		"?", "", " ", "0", "abcdef", right[1:], right + "0", "0" + right, strings.ToUpper(right), right[:15] + "F", strings.Repeat("0", 16),
		" " + right[1:], right[:15] + " ", right + " ", " " + right, right + "\r\n", right[:15] + "g", right[:15] + "\x00", "+" + right[1:], "-" + right[1:], "0x" + right[2:], long,
	} {
		for _, offset := range []string{"30", "0", "-1"} {
			b, goesOn, e := p.psync(1, id, offset, store)
			if goesOn || e != api.OK {
				t.Fatalf("Psync(1, %q, %q) = %q, %t, %v", brief(id), offset, brief(b), goesOn, e)
			}
			comesWhole(t, b, 0xabcdef, 30, store)
			p.link(1, 30, -1)
		}
	}
	p.asks(1, 0xabcdef, 3, true)
}

func TestPsyncOfWhatIsNoOffset(t *testing.T) {
	p := made(t, 40, 1)
	p.ok(p.raw(text(30)))
	for _, offset := range []string{
		"", "-1", "01", "+1", "-0", "1 ", " 1", "00", "9223372036854775808", "9223372036854775807", "-9223372036854775808", "-9223372036854775809", "18446744073709551617",
		"4294967297", "1125899906842624", "1125899906842625", "31", "0x1", "1e1", "1.0", "1_0", "?", "x", "\r\n", "1\r\n", "1\x00", "\xff", "١", long, strings.Repeat("0", 40) + "1",
	} {
		b, goesOn, e := p.psync(1, idText(1), offset, store)
		if goesOn || e != api.OK {
			t.Fatalf("Psync(1, 1, %q) = %q, %t, %v", brief(offset), brief(b), goesOn, e)
		}
		comesWhole(t, b, 1, 30, store)
		p.link(1, 30, -1)
	}
	for _, offset := range []string{"0", "1", "10", "30"} {
		if b, goesOn, _ := p.psync(1, idText(1), offset, store); !goesOn {
			t.Errorf("Psync(1, 1, %q) = %q", offset, b)
		}
	}
}

// P22.2: images

// wrongImages are rows that are no images, one for each reason, and one that is too great.
func wrongImages() map[string][]api.Entry {
	str := func(s string) api.Value { return api.Value{Kind: api.KString, S: s} }
	list := func(n int, s string) api.Value { return api.Value{Kind: api.KList, L: slices.Repeat([]string{s}, n)} }
	many := make([]api.Entry, api.MaxKeys+1)
	for i := range many {
		many[i] = stay(strconv.Itoa(1000000+i), str(""))
	}
	return map[string][]api.Entry{
		"too many entries":    many,
		"out of order":        noStore,
		"a key twice":         {stay("a", str("")), stay("a", str(""))},
		"too long a key":      {stay(over, str(""))},
		"too early an end":    {{Key: "a", V: str(""), At: -2}},
		"too late an end":     {{Key: "a", V: str(""), At: api.MaxTime + 1}},
		"no kind":             {stay("a", api.Value{})},
		"a kind 6":            {stay("a", api.Value{Kind: 6})},
		"too long a string":   {stay("a", str(over))},
		"an empty list":       {stay("a", api.Value{Kind: api.KList})},
		"too long a list":     {stay("a", list(api.MaxLen+1, ""))},
		"too long an item":    {stay("a", list(1, over))},
		"a set out of order":  {stay("a", api.Value{Kind: api.KSet, L: []string{"b", "a"}})},
		"members out of line": {stay("a", api.Value{Kind: api.KZset, Z: []api.Scored{{M: "a", N: 1}, {M: "b"}}})},
		"a field twice":       {stay("a", api.Value{Kind: api.KHash, H: []api.Field{{F: "a"}, {F: "a"}}})},
		"a string and a list": {stay("a", api.Value{Kind: api.KString, L: []string{"a"}})},
		"too great a store":   {stay("a", list(1024, long))},
	}
}

func TestPsyncOfNoImage(t *testing.T) {
	for name, img := range wrongImages() {
		_, want := snapshot.Encode(api.History{ID: 7, Offset: 90}, img)
		if want == api.OK {
			t.Fatalf("snapshot.Encode takes %s", name)
		}
		p := busy(t)
		before := look(p.lead)
		for _, link := range []int{least, -5, 3, greatest, 0, 1, -1} { // those that are there, and others
			for _, id := range []string{"?", idText(7), idText(8)} {
				b, goesOn, e := p.psync(link, id, "49", img)
				if b != "" || goesOn || e != want {
					t.Fatalf("%s: Psync(%d, %s) = %q, %t, %v, want %v", name, link, id, brief(b), goesOn, e, want)
				}
			}
		}
		if look(p.lead) != before {
			t.Errorf("%s: %s, it was %s", name, look(p.lead), before)
		}
		p.sends(-5, greatest, text(30))
		if b, goesOn, e := p.psync(3, idText(7), "90", img); b != "+CONTINUE 0000000000000007\r\n" || !goesOn || e != api.OK {
			t.Errorf("%s: Psync = %q, %t, %v", name, b, goesOn, e)
		}
		if b, goesOn, e := p.psync(0, idText(7), "50", img); b != "+CONTINUE 0000000000000007\r\n" || !goesOn || e != api.OK {
			t.Errorf("%s: Psync = %q, %t, %v", name, b, goesOn, e)
		}
	}
}

// ofSize is an image whose snapshot has so many bytes.
func ofSize(t *testing.T, n int) []api.Entry {
	t.Helper()
	const bare, item = 33 + 2*(1+8+4+1+4), 4 + api.MaxBulk
	rest := n - bare
	return []api.Entry{
		stay("a", api.Value{Kind: api.KList, L: slices.Repeat([]string{long}, rest/item)}),
		stay("b", api.Value{Kind: api.KString, S: long[:rest%item]}),
	}
}

// A snapshot with as many bytes as may be, and with one more.
func TestPsyncOfTheGreatestStore(t *testing.T) {
	t.Parallel()
	p := made(t, 10, 9)
	img := ofSize(t, api.MaxStore)
	b, goesOn, e := p.psync(1, "?", "-1", img)
	if !strings.HasPrefix(b, "+FULLRESYNC 0000000000000009 0\r\n$67108864\r\nMILLPOND") || goesOn || e != api.OK {
		t.Fatalf("Psync = %q, %t, %v", brief(b), goesOn, e)
	}
	comesWhole(t, b, 9, 0, img)
	img[1].V.S += "x"
	_, _, e = p.psync(1, "?", "-1", img)
	p.refused(e, api.ErrLong)
	_, _, e = p.psync(2, "?", "-1", img)
	p.refused(e, api.ErrLong)
	p.links(1)
}

// P22.2: a link that is there asks again: what it acknowledged is gone.
func TestPsyncAgain(t *testing.T) {
	for _, again := range []string{"50", "60", "89", "90"} {
		for _, id := range []string{idText(7), "?"} {
			p := busy(t)
			for _, link := range []int{least, -5, 3, greatest} {
				was := p.count(-1)
				_, acked, _ := p.lead.Link(link)
				_, goesOn, _ := p.psync(link, id, again, store)
				next := 90
				if goesOn {
					next, _ = strconv.Atoi(again)
				}
				p.link(link, next, -1)
				if acked >= 0 {
					was--
				}
				if n := p.count(-1); n != was {
					t.Errorf("Count(-1) = %d, want %d", n, was)
				}
				p.refused(p.ack(link, next+1), api.ErrRange)
				p.sends(link, greatest, p.model.there[next-50:])
			}
			if n := p.count(-1); n != 0 {
				t.Errorf("Count(-1) = %d when all asked again", n)
			}
			p.links(least, -5, 3, greatest)
			stillWait(t, p)
		}
	}
}
