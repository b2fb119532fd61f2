package follow_test

import (
	"strconv"
	"strings"
	"testing"

	"millpond/api"
)

// P21.3, FAsking

func TestContinue(t *testing.T) {
	for text, id := range map[string]uint64{"0000000000000001": 1, "00000000000000ff": 255, "fedcba9876543210": 0xfedcba9876543210, "ffffffffffffffff": mostID} {
		for _, offset := range []int{0, 27, api.MaxOffset} {
			want := api.Took{Continue: true, H: api.History{ID: id}}
			s := goesOn(text)
			for n := range len(s) {
				f := asking(t, 3, offset)
				waits(t, "a beginning of the line", f, s[:n])
				stands(t, "a beginning of the line", f, api.FAsking, offset, unset)
				takes(t, "the rest of the line", f, 1300, s[n:], want)
				stands(t, "the stream goes on", f, api.FStreaming, offset, 1300)
			}
			f := asking(t, 0, offset)
			for n := range len(s) - 1 {
				waits(t, "byte by byte", f, s[n:n+1])
			}
			takes(t, "byte by byte", f, 1000, "\n", want)
			stands(t, "the stream goes on", f, api.FStreaming, offset, 1000)
		}
	}
}

func TestFullresync(t *testing.T) {
	for _, announced := range []int{0, 1, 27, api.MaxOffset} {
		for _, offset := range []int{0, 33, api.MaxOffset} {
			s := comesWhole("00000000000000ff", announced)
			for n := range len(s) {
				f := asking(t, 3, offset)
				waits(t, "a beginning of the line", f, s[:n])
				stands(t, "a beginning of the line", f, api.FAsking, offset, unset)
				takes(t, "the rest of the line", f, 1300, s[n:], api.Took{Empty: true})
				stands(t, "a whole store comes", f, api.FLoading, 0, unset)
			}
			f := asking(t, 0, offset)
			for n := range len(s) - 1 {
				waits(t, "byte by byte", f, s[n:n+1])
			}
			takes(t, "byte by byte", f, 1000, "\n", api.Took{Empty: true})
			stands(t, "a whole store comes", f, api.FLoading, 0, unset)
		}
	}
}

// wrongAnswers are lines that a primary does not answer with.
func wrongAnswers() []string {
	const id = "00000000000000ff"
	l := []string{
		"", " ", "\r", "\n", "+", "*", "$0", "+OK", "-ERR no link", "+CONTINUE", "+CONTINUE ", "+CONTINUE  ", "CONTINUE " + id, "-CONTINUE " + id, "++CONTINUE " + id,
		"+CONTINUE " + id + " ", "+CONTINUE  " + id, " +CONTINUE " + id, "+CONTINUE " + id + " 0", "+CONTINUE " + id + " " + id, "+CONTINUE\t" + id, "+CONTINUE" + id,
		"+continue " + id, "+Continue " + id, "+CONTINUE " + id + "\r", "+CONTINUE " + id + "\n", "\n+CONTINUE " + id, "+CONTINUE\n" + id, "+CONTINUE " + id + "\x00", "+CONTINUED " + id,
		"+FULLRESYNC", "+FULLRESYNC ", "+FULLRESYNC " + id, "+FULLRESYNC " + id + " ", "+FULLRESYNC 27", "+FULLRESYNC " + id + " 27 ", "+FULLRESYNC " + id + " 27 1",
		"+FULLRESYNC  " + id + " 27", "+FULLRESYNC " + id + "  27", " +FULLRESYNC " + id + " 27", "FULLRESYNC " + id + " 27", "-FULLRESYNC " + id + " 27", "+fullresync " + id + " 27",
		"+FullResync " + id + " 27", "+FULLRESYNC 27 " + id, "+FULLRESYNC " + id + "\t27", "+FULLRESYNC\t" + id + " 27", "+FULLRESYNC " + id + "27", "+FULLRESYNC" + id + " 27",
		"+FULLRESYNC " + id + " 27\r", "+FULLRESYNC " + id + " 27\n", "+FULLRESYNCS " + id + " 27", "+FULLRESYNC " + id + " 27\x00", "+FULLRESYNC ? -1",
	}
	for _, other := range []string{"0", "0000000000000000", "0000000000000ff", "0000000000000000ff", "00000000000000FF", "00000000000000fF", "000000000000000g", "00000000000000f/", "00000000000000f:", "00000000000000f`", "0x000000000000ff", "+0000000000000ff", "-000000000000001", "0000000000000_ff", "255"} {
		l = append(l, "+CONTINUE "+other, "+FULLRESYNC "+other+" 27")
	}
	for _, offset := range []string{"-1", "1125899906842625", "9223372036854775808", "-9223372036854775808", "18446744073709551616", "01", "+1", "-0", "00", "", "x", "1x", "1.0", "0x1", "1_0"} {
		l = append(l, "+FULLRESYNC "+id+" "+offset)
	}
	return l
}

// Each of them drops the link with its last byte, no sooner; also when half of it came ahead, and when more comes behind.
func TestAnswersThatAreNone(t *testing.T) {
	for _, line := range wrongAnswers() {
		s := line + "\r\n"
		name := strconv.Quote(line)
		drops(t, name, asking(t, 3, 44), s, 44)
		drops(t, name+" and more", asking(t, 3, 44), s+goesOn("00000000000000ff")+cmd("DEL", "k"), 44)
		for n := range s {
			f := asking(t, 3, 44)
			waits(t, name, f, s[:n])
			stands(t, name, f, api.FAsking, 44, unset)
			drops(t, name, f, s[n:], 44)
		}
	}
}

// In each byte of a right line another one: few of these lines are right ones, too.
func TestAnswersWithAnotherByte(t *testing.T) {
	for _, line := range []string{goesOn("00000000000000ff"), comesWhole("00000000000000ff", 27)} {
		right := 0
		for i := range len(line) {
			for c := range 256 {
				b := []byte(line)
				b[i] = byte(c)
				want := of(string(b), 44)
				f := asking(t, 3, 44)
				takes(t, strconv.Quote(string(b)), f, 1000, string(b), want.Took)
				if state, offset := f.State(); state != want.state || offset != want.offset {
					t.Fatalf("%q: State = %d, %d, want %d, %d", b, state, offset, want.state, want.offset)
				}
				if want.Continue || want.Empty {
					right++
				}
			}
		}
		if right < 16*15 || right > 16*16+2*10+len(line) {
			t.Errorf("%d lines near %q are right", right, line)
		}
	}
}

// Where a line's end stands, and where it does not: two states have lines.
func TestLongLines(t *testing.T) {
	for _, state := range []api.FollowState{api.FAsking, api.FLoading} {
		for _, begin := range []string{"+CONTINUE 00000000000000ff", "+FULLRESYNC 00000000000000ff 2", "$2", "x"} {
			for _, fill := range []string{"x", "0", " ", "\r", "\n"} {
				filled := begin + strings.Repeat(fill, 300)
				for n := 95; n <= 110; n++ {
					f, offset := in(t, state)
					line := filled[:n]
					if n > 102 {
						drops(t, "bytes without a line's end", f, line, offset)
						continue
					}
					waits(t, "bytes without a line's end", f, line)
					stands(t, "bytes without a line's end", f, state, offset, unset)
					if fill != "\r" && n == 102 {
						drops(t, "one byte more", f, fill, offset)
						continue
					}
					if fill != "\r" && n == 101 {
						waits(t, "half a line's end, too late", f, "\r")
						drops(t, "a line of 101 bytes", f, "\n", offset)
						continue
					}
					drops(t, "a line's end", f, "\r\n", offset)
				}
			}
		}
	}
}

// A line's end at each place, all in one Take: the link is cut, whether the line is whole or too long; bytes that end ahead of it wait, as long as they may.
func TestLineEndsAtEachPlace(t *testing.T) {
	for _, state := range []api.FollowState{api.FAsking, api.FLoading} {
		for n := range 130 {
			line := strings.Repeat("y", n) + "\r\n" + strings.Repeat("z", 40)
			f, offset := in(t, state)
			drops(t, "a line of "+strconv.Itoa(n)+" bytes", f, line, offset)
			for cut := range min(n+2, 103) {
				f, offset := in(t, state)
				waits(t, "a beginning", f, line[:cut])
				drops(t, "a line of "+strconv.Itoa(n)+" bytes in two pieces", f, line[cut:], offset)
			}
		}
	}
}

// What stands behind the line is taken at once, whether it came with it or not.
func TestBehindContinue(t *testing.T) {
	line, s := goesOn("00000000000000ff"), cmd("SET", "k", "v")+cmd("DEL", "k")
	commands := [][]string{{"SET", "k", "v"}, {"DEL", "k"}}
	f := asking(t, 3, 10)
	takes(t, "in one Take", f, 1000, line+s, api.Took{Continue: true, H: api.History{ID: 255}, Commands: commands, Bytes: []byte(s)})
	stands(t, "in one Take", f, api.FStreaming, 10+len(s), 1000)

	f = asking(t, 3, 10)
	takes(t, "the line", f, 1000, line, api.Took{Continue: true, H: api.History{ID: 255}})
	takes(t, "later", f, 1700, s, api.Took{Commands: commands, Bytes: []byte(s)})
	stands(t, "later", f, api.FStreaming, 10+len(s), 1000)

	f = asking(t, 3, 10)
	takes(t, "cut behind the line", f, 1000, line+"+OK\r\n", api.Took{Continue: true, H: api.History{ID: 255}, Drop: true})
	stands(t, "cut behind the line", f, api.FIdle, 10, 1050)

	f = asking(t, 3, 10)
	takes(t, "another line behind it", f, 1000, line+line, api.Took{Continue: true, H: api.History{ID: 255}, Drop: true})
	stands(t, "another line behind it", f, api.FIdle, 10, 1050)
}

func TestBehindFullresync(t *testing.T) {
	line, body := comesWhole("0000000000000009", 70), sized(snap(t, 9, 70, store))
	h := api.History{ID: 9, Offset: 70}
	f := asking(t, 3, 10)
	takes(t, "in one Take", f, 1000, line+body, api.Took{Empty: true, Load: true, H: h, Img: store})
	stands(t, "in one Take", f, api.FStreaming, 70, 1000)

	f = asking(t, 3, 10)
	takes(t, "the line, and half of what is behind", f, 1000, line+body[:40], api.Took{Empty: true})
	stands(t, "the line, and half of what is behind", f, api.FLoading, 0, unset)
	takes(t, "the rest", f, 1700, body[40:], api.Took{Load: true, H: h, Img: store})
	stands(t, "the rest", f, api.FStreaming, 70, 1700)
}
