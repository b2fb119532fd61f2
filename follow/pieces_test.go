package follow_test

import (
	"math/rand/v2"
	"slices"
	"strings"
	"testing"

	"millpond/api"
	"millpond/follow"
	"millpond/snapshot"
)

// P21.5, P21.6, P21.7: what comes, however it is cut, against the model

// rig is a Follow whose link was begun, beside all that came on it.
type rig struct {
	t      *testing.T
	f      *follow.Follow
	now    int
	offset int // as Up had it
	timer  int
	came   string
	told   outcome
}

// begun is a link that was begun at an offset.
func begun(t *testing.T, offset int) *rig {
	t.Helper()
	g := &rig{t: t, f: made(t, conf, 0)}
	g.begins(1, offset)
	return g
}

func (g *rig) begins(id uint64, offset int) {
	g.t.Helper()
	up(g.t, g.f, g.now, id, offset)
	g.offset, g.timer, g.came, g.told = offset, unset, "", of("", offset)
	g.holds()
}

func (g *rig) ends() {
	g.t.Helper()
	if e := g.f.Down(g.now); e != api.OK {
		g.t.Fatalf("Down = %v behind %s", e, brief(g.came))
	}
	g.timer = min(g.now+conf.Retry, api.MaxTime)
	g.told.state = api.FIdle
	g.holds()
}

// takesAll holds what comes of a piece, whatever it is.
func (g *rig) takesAll(s string) api.Took {
	g.t.Helper()
	g.came += s
	next := of(g.came, g.offset)
	want := next.without(g.told)
	got, e := g.f.Take(g.now, []byte(s))
	if !alike(got, want) || e != api.OK {
		g.t.Fatalf("behind %s: Take(%s) = %+v, %v, want %+v", brief(g.came[:len(g.came)-len(s)]), brief(s), got, e, want)
	}
	switch {
	case want.Drop:
		g.timer = min(g.now+conf.Retry, api.MaxTime)
	case want.Continue || want.Load:
		g.timer = g.now
	}
	g.told = next
	g.holds()
	g.onBoundaries(got)
	return got
}

// ticksAt lets time go by.
func (g *rig) ticksAt(now int) {
	g.t.Helper()
	g.now = now
	due := g.timer != unset && g.timer <= now
	want, wanted := "", due && g.told.state == api.FIdle
	switch {
	case wanted:
		g.timer = min(now+conf.Retry, api.MaxTime)
	case due:
		want, g.timer = ack(g.told.offset), min(now+conf.Ack, api.MaxTime)
	}
	ticks(g.t, brief(g.came), g.f, now, want, wanted)
	g.holds()
}

func (g *rig) holds() {
	g.t.Helper()
	stands(g.t, brief(g.came), g.f, g.told.state, g.told.offset, g.timer)
}

// onBoundaries holds that what is told is of whole things alone.
func (g *rig) onBoundaries(got api.Took) {
	g.t.Helper()
	var b strings.Builder
	for _, args := range got.Commands {
		b.WriteString(cmd(args...))
	}
	if b.String() != string(got.Bytes) {
		g.t.Fatalf("Bytes are %s, want those of the commands, %s", brief(string(got.Bytes)), brief(b.String()))
	}
	if got.Load {
		whole, e := snapshot.Encode(got.H, got.Img)
		if e != api.OK || !strings.Contains(g.came, comesWhole(hex(got.H.ID), got.H.Offset)+sized(string(whole))) {
			g.t.Fatalf("Img is told of no snapshot that was announced and came: %+v, %v", got.H, e)
		}
	} else if got.Img != nil {
		g.t.Fatalf("Img is told without Load")
	}
}

// Each way to cut some short links: ways has a bit for each place between two bytes.
func TestAllWaysToCut(t *testing.T) {
	t.Parallel()
	const line = "+CONTINUE 0000000000000005\r\n"
	for _, s := range []string{"*1\r\n$1\r\nx\r\n*1\r\n", "*1\r\n$0\r\n\r\n*0\r\n*", "*2\r\n:7\r\n*x\r\nxx", "*1\r\n$1\r\nxy\r\n*1\r\n", "*1\r\n*1\r\n$1\r\nx\r\n", "?*1\r\n$1\r\nx\r\n"} {
		for ways := range 1 << (len(s) - 1) {
			g := begun(t, 33)
			g.takesAll(line)
			from := 0
			for to := 1; to <= len(s) && !g.told.Drop; to++ {
				if to == len(s) || ways>>(to-1)&1 == 1 {
					g.takesAll(s[from:to])
					from = to
				}
			}
		}
	}
}

// links are all that came on some links.
func links(t *testing.T) []string {
	t.Helper()
	whole := comesWhole("0000000000000009", 70) + sized(snap(t, 9, 70, store))
	s := cmd("SET", "k", "\r\n") + cmd("DEL", "") + cmd("FLUSHALL")
	return []string{
		goesOn("00000000000000ff") + s, whole + s, whole + s + "*0\r\n", whole + s + "?", whole + whole, goesOn("00000000000000ff") + s + "*2\r\n:7\r\n$1\r\nx\r\n",
		comesWhole("0000000000000009", 71) + sized(snap(t, 9, 70, store)), comesWhole("0000000000000009", 0) + sized(snap(t, 9, 0, nil)) + cmd(many(20)...), comesWhole("0000000000000009", 0) + "$0\r\n",
		whole[:120] + "x" + whole[121:] + s, "-ERR no link\r\n", strings.Repeat("+", 120), comesWhole("0000000000000009", 70) + strings.Repeat("$", 120),
	}
}

// Each two places at which a link is cut in three.
func TestCutInThree(t *testing.T) {
	t.Parallel()
	for _, s := range links(t) {
		for one := 0; one <= len(s); one += 1 + len(s)/120 {
			for two := one; two <= len(s); two += 1 + len(s)/60 {
				g := begun(t, 33)
				for _, piece := range []string{s[:one], s[one:two], s[two:]} {
					if !g.told.Drop {
						g.takesAll(piece)
					}
				}
			}
		}
	}
}

func TestByteByByte(t *testing.T) {
	for _, s := range links(t) {
		g := begun(t, 33)
		for i := 0; i < len(s) && !g.told.Drop; i++ {
			g.takesAll(s[i : i+1])
		}
	}
}

// In the end all is the same, however it was cut, but where there was a cut.
func TestInTheEnd(t *testing.T) {
	t.Parallel()
	m := rand.New(rand.NewPCG(21, 5))
	for _, s := range links(t) {
		want := of(s, 33)
		for range 200 {
			f := made(t, conf, 1000)
			up(t, f, 1000, 1, 33)
			var commands [][]string
			var bytes []byte
			for rest, most := s, 1+m.IntN(1<<m.IntN(9)); rest != ""; {
				n := min(len(rest), 1+m.IntN(most))
				took, e := f.Take(1000, []byte(rest[:n]))
				if e != api.OK {
					t.Fatalf("Take(%s) = %v", brief(rest[:n]), e)
				}
				commands, bytes, rest = append(commands, took.Commands...), append(bytes, took.Bytes...), rest[n:]
				if took.Drop {
					break
				}
			}
			state, offset := f.State()
			if !slices.EqualFunc(commands, want.Commands, slices.Equal) || string(bytes) != string(want.Bytes) || state != want.state || offset != want.offset {
				t.Fatalf("%s: %q, state %d, offset %d, want %+v", brief(s), commands, state, offset, want)
			}
		}
	}
}

// maker makes what comes by chance, always the same.
type maker struct{ *rand.Rand }

func (m maker) text(n int) string {
	b := make([]byte, m.IntN(n+1))
	for i := range b {
		b[i] = "\r\n$*:+-019\x00\xffxyz"[m.IntN(15)]
	}
	return string(b)
}

func (m maker) command() string {
	l := make([]string, 1+m.IntN(4))
	for i := range l {
		l[i] = m.text(6)
	}
	return cmd(l...)
}

// image is one of a few entries.
func (m maker) image() []api.Entry {
	var l []api.Entry
	for _, key := range []string{"", "a", "b", "c"} {
		if m.IntN(2) == 0 {
			l = append(l, api.Entry{Key: key, V: api.Value{Kind: api.KString, S: m.text(9)}, At: m.IntN(5) - 1})
		}
	}
	return l
}

// link is all that comes on a link; some of these are bent.
func (m maker) link(t *testing.T) string {
	t.Helper()
	var s strings.Builder
	id, offset := 1+m.Uint64N(3), m.IntN(3)*(api.MaxOffset/2)
	if m.IntN(2) == 0 {
		s.WriteString(goesOn(hex(id)))
	} else {
		s.WriteString(comesWhole(hex(id), offset))
		s.WriteString(sized(snap(t, max(1, id-m.Uint64N(5)/4), max(0, offset-m.IntN(5)/4), m.image())))
	}
	for range m.IntN(8) {
		s.WriteString(m.command())
	}
	return m.bent(s.String())
}

// bent is a text with some bytes other ones, left out or put in; often it is as it was.
func (m maker) bent(s string) string {
	for range m.IntN(6) / 2 {
		i := m.IntN(len(s) + 1)
		j := i + m.IntN(min(len(s)-i, 6)+1)
		switch m.IntN(6) {
		case 0:
			s = s[:i] + s[j:]
		case 1:
			s = s[:i] + m.text(3) + s[j:]
		case 2:
			s = s[:i] + s[i:j] + s[i:]
		case 3:
			s += []string{"*0\r\n", "*-1\r\n", "*1\r\n:5\r\n", "*2\r\n*1\r\n$1\r\nx\r\n+\r\n", "*1\r\n$-1\r\n", ":5\r\n", "\r\n"}[m.IntN(7)]
		}
	}
	return s
}

// Long rows of calls by chance: links that come and go, whose bytes are cut anyhow, while time goes by.
func TestAgainstTheModel(t *testing.T) {
	t.Parallel()
	m := maker{rand.New(rand.NewPCG(21, 1))}
	loaded, went, dropped := 0, 0, 0
	for range 600 {
		g := &rig{t: t, f: made(t, conf, 0), told: outcome{state: api.FIdle}}
		for range 12 {
			g.ticksAt(g.now + m.IntN(120))
			g.begins(m.Uint64N(3), m.IntN(2)*m.IntN(api.MaxOffset))
			s, most := m.link(t), 1+m.IntN(1<<m.IntN(9))
			for s != "" && !g.told.Drop {
				n := min(len(s), m.IntN(most+1))
				g.takesAll(s[:n])
				s = s[n:]
				if m.IntN(4) == 0 {
					g.ticksAt(g.now + m.IntN(20))
				}
			}
			switch {
			case g.told.Drop:
				dropped++
			case g.told.Load:
				loaded++
			case g.told.Continue:
				went++
			}
			if !g.told.Drop {
				g.ends()
			}
		}
	}
	if loaded < 500 || went < 500 || dropped < 500 {
		t.Errorf("%d links loaded, %d went on, %d were cut", loaded, went, dropped)
	}
}

// A long stream, in pieces of any size: with each piece come the commands that end in it.
func TestALongStream(t *testing.T) {
	t.Parallel()
	m := maker{rand.New(rand.NewPCG(21, 2))}
	var s strings.Builder
	var ends []int
	for range 20000 {
		s.WriteString(m.command())
		ends = append(ends, s.Len())
	}
	for _, most := range []int{1, 3, 20, 300, 5000, 100000, s.Len()} {
		f, at, done, began := streaming(t, 33), 0, 0, 0
		for at < s.Len() {
			n := min(s.Len()-at, 1+m.IntN(most))
			took, e := f.Take(1000, []byte(s.String()[at:at+n]))
			at += n
			for _, args := range took.Commands {
				if want := s.String()[began:ends[done]]; cmd(args...) != want {
					t.Fatalf("command %d is %q, want those of %q", done, args, want)
				}
				began, done = ends[done], done+1
			}
			if e != api.OK || took.Drop || began > at || done < len(ends) && ends[done] <= at || string(took.Bytes) != s.String()[began-len(took.Bytes):began] {
				t.Fatalf("Take of %d bytes up to %d = %d commands, %d bytes, %v", n, at, len(took.Commands), len(took.Bytes), e)
			}
			if state, offset := f.State(); state != api.FStreaming || offset != 33+began {
				t.Fatalf("State = %d, %d, want the offset %d", state, offset, 33+began)
			}
		}
		stands(t, "a long stream", f, api.FStreaming, 33+s.Len(), 1000)
	}
}
