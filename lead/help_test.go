package lead_test

import (
	"fmt"
	"math"
	"slices"
	"strconv"
	"strings"
	"testing"

	"millpond/api"
	"millpond/lead"
)

const (
	least    = math.MinInt
	greatest = math.MaxInt
	mostID   = uint64(math.MaxUint64)
)

var (
	long  = strings.Repeat("x", api.MaxBulk)
	over  = long + "x"
	ends  = []int{least, least + 1, -2, -1, 0, 1, greatest - 1, greatest}
	store = []api.Entry{
		stay("", api.Value{Kind: api.KString, S: "\x00\r\n\xff"}),
		stay("h", api.Value{Kind: api.KHash, H: []api.Field{{F: "a", V: "b"}, {F: "c"}}}),
		stay("l", api.Value{Kind: api.KList, L: []string{"b", "a"}}),
		{Key: "s", V: api.Value{Kind: api.KSet, L: []string{"", "a"}}, At: 2000},
		{Key: "z", V: api.Value{Kind: api.KZset, Z: []api.Scored{{M: "m", N: -5}}}, At: api.MaxTime},
	}
	noStore = []api.Entry{stay("b", api.Value{Kind: api.KString}), stay("a", api.Value{Kind: api.KString})}
)

func stay(key string, v api.Value) api.Entry { return api.Entry{Key: key, V: v, At: api.Never} }

// cmd are a command's bytes.
func cmd(l ...string) string {
	var b strings.Builder
	b.WriteString("*" + strconv.Itoa(len(l)) + "\r\n")
	for _, s := range l {
		b.WriteString("$" + strconv.Itoa(len(s)) + "\r\n" + s + "\r\n")
	}
	return b.String()
}

// words are a command.
func words(s string) []string { return strings.Fields(s) }

// text are n bytes, of which those near one another differ.
func text(n int) string {
	b := make([]byte, n)
	for i := range b {
		b[i] = byte(i*7 + i/256*13)
	}
	return string(b)
}

// shown are commands, as much of them as a line may show.
func shown(l [][]string) string {
	var s []string
	for _, args := range l {
		short := args[:min(len(args), 4)]
		s = append(s, fmt.Sprintf("%d: %.20q", len(args), short))
	}
	return strings.Join(s, ", ")
}

// idText is an ID's text.
func idText(id uint64) string { return fmt.Sprintf("%016x", id) }

// brief is an answer's beginning, as much as a line may show.
func brief(s string) string { return s[:min(len(s), 400)] }

// pair is a lead beside a model of it: each call is made of both, and must answer and leave the same.
type pair struct {
	t     *testing.T
	lead  *lead.Lead
	model *model
	calls []string // the last ones
}

// made is a lead that New must make, with its model.
func made(t *testing.T, size int, id uint64) *pair {
	t.Helper()
	l, e := lead.New(size, id)
	if l == nil || e != api.OK {
		t.Fatalf("New(%d, %d) = %v, %v", size, id, l, e)
	}
	p := &pair{t: t, lead: l, model: &model{size: size, h: api.History{ID: id}}}
	p.same(fmt.Sprintf("New(%d, %d)", size, id), "", "")
	return p
}

// look is all that a lead shows without a change.
func look(l *lead.Lead) string {
	first, end := l.Window()
	s := fmt.Sprintf("%+v from %d to %d", l.State(), first, end)
	for _, link := range l.Links() {
		next, acked, ok := l.Link(link)
		if !ok {
			s += " not there:"
		}
		s += fmt.Sprintf("; %d: %d, %d, %d, %d, %d", link, next, acked, l.Count(acked-1), l.Count(acked), l.Count(acked+1))
	}
	return s
}

// same holds that a call answered what the model answers, and left what it leaves.
func (p *pair) same(call, got, want string) {
	p.t.Helper()
	if got != want {
		p.t.Fatalf("%s = %q, want %q; behind %s", call, brief(got), brief(want), strings.Join(p.calls, ", "))
	}
	if is, want := look(p.lead), p.model.look(); is != want {
		p.t.Fatalf("behind %s it is %s, want %s; behind %s", call, is, want, strings.Join(p.calls, ", "))
	}
	p.calls = append(p.calls[max(0, len(p.calls)-30):], brief(call))
}

func (p *pair) feed(l ...[]string) api.Errno {
	p.t.Helper()
	e := p.lead.Feed(l...)
	p.same("Feed("+shown(l)+")", fmt.Sprint(e), fmt.Sprint(p.model.feed(l)))
	return e
}

func (p *pair) raw(b string) api.Errno {
	p.t.Helper()
	e := p.lead.Raw([]byte(b))
	p.same(fmt.Sprintf("Raw(%q)", b), fmt.Sprint(e), fmt.Sprint(p.model.raw(b)))
	return e
}

func (p *pair) fork(id uint64) api.Errno {
	p.t.Helper()
	e := p.lead.Fork(id)
	p.same(fmt.Sprintf("Fork(%d)", id), fmt.Sprint(e), fmt.Sprint(p.model.fork(id)))
	return e
}

func (p *pair) follow(id uint64, offset int) api.Errno {
	p.t.Helper()
	e := p.lead.Follow(id, offset)
	p.same(fmt.Sprintf("Follow(%d, %d)", id, offset), fmt.Sprint(e), fmt.Sprint(p.model.follow(id, offset)))
	return e
}

func (p *pair) psync(link int, id, offset string, img []api.Entry) (string, bool, api.Errno) {
	p.t.Helper()
	b, goesOn, e := p.lead.Psync(link, id, offset, img)
	want, wantGoesOn, wantE := p.model.psync(link, id, offset, img)
	if e != api.OK && b != nil {
		p.t.Fatalf("Psync tells bytes beside %v", e)
	}
	p.same(fmt.Sprintf("Psync(%d, %q, %q)", link, brief(id), brief(offset)), fmt.Sprint(goesOn, e, string(b)), fmt.Sprint(wantGoesOn, wantE, want))
	return string(b), goesOn, e
}

// asks lets a link go on, or begin with a whole store.
func (p *pair) asks(link int, id uint64, offset int, goesOn bool) {
	p.t.Helper()
	if b, is, e := p.psync(link, idText(id), strconv.Itoa(offset), store); is != goesOn || e != api.OK {
		p.t.Fatalf("Psync(%d, %d, %d) = %q, %t, %v", link, id, offset, brief(b), is, e)
	}
}

func (p *pair) out(link, most int) (string, api.Errno) {
	p.t.Helper()
	b, e := p.lead.Out(link, most)
	want, wantE := p.model.out(link, most)
	if e != api.OK && b != nil {
		p.t.Fatalf("Out(%d, %d) tells bytes beside %v", link, most, e)
	}
	p.same(fmt.Sprintf("Out(%d, %d)", link, most), fmt.Sprint(e, string(b)), fmt.Sprint(wantE, want))
	return string(b), e
}

// sends holds that Out tells this.
func (p *pair) sends(link, most int, want string) {
	p.t.Helper()
	if b, e := p.out(link, most); b != want || e != api.OK {
		p.t.Fatalf("Out(%d, %d) = %q, %v, want %q", link, most, brief(b), e, brief(want))
	}
}

func (p *pair) ack(link, offset int) api.Errno {
	p.t.Helper()
	e := p.lead.Ack(link, offset)
	p.same(fmt.Sprintf("Ack(%d, %d)", link, offset), fmt.Sprint(e), fmt.Sprint(p.model.ack(link, offset)))
	return e
}

func (p *pair) drop(link int) bool {
	p.t.Helper()
	ok := p.lead.Drop(link)
	p.same(fmt.Sprintf("Drop(%d)", link), fmt.Sprint(ok), fmt.Sprint(p.model.drop(link)))
	return ok
}

func (p *pair) count(offset int) int {
	p.t.Helper()
	n := p.lead.Count(offset)
	p.same(fmt.Sprintf("Count(%d)", offset), fmt.Sprint(n), fmt.Sprint(p.model.count(offset)))
	return n
}

func (p *pair) wait(number, offset, n, deadline int) api.Errno {
	p.t.Helper()
	e := p.lead.Wait(number, offset, n, deadline)
	want := p.model.wait(client{number, offset, n, deadline})
	p.same(fmt.Sprintf("Wait(%d, %d, %d, %d)", number, offset, n, deadline), fmt.Sprint(e), fmt.Sprint(want))
	return e
}

func (p *pair) leave(number int) bool {
	p.t.Helper()
	ok := p.lead.Leave(number)
	p.same(fmt.Sprintf("Leave(%d)", number), fmt.Sprint(ok), fmt.Sprint(p.model.leave(number)))
	return ok
}

func (p *pair) done(now int) []api.Waited {
	p.t.Helper()
	l := p.lead.Done(now)
	p.same(fmt.Sprintf("Done(%d)", now), fmt.Sprint(l), fmt.Sprint(p.model.done(now)))
	return l
}

// tells holds whom Done tells.
func (p *pair) tells(now int, want ...api.Waited) {
	p.t.Helper()
	if l := p.done(now); !slices.Equal(l, want) {
		p.t.Fatalf("Done(%d) = %v, want %v", now, l, want)
	}
}

// ok: a call must not tell an error.
func (p *pair) ok(e api.Errno) {
	p.t.Helper()
	if e != api.OK {
		p.t.Fatalf("%s: %v", p.calls[len(p.calls)-1], e)
	}
}

// refused holds which error a call told.
func (p *pair) refused(e, want api.Errno) {
	p.t.Helper()
	if e != want {
		p.t.Fatalf("%s: %v, want %v", p.calls[len(p.calls)-1], e, want)
	}
}

// links holds which links are there.
func (p *pair) links(want ...int) {
	p.t.Helper()
	if l := p.lead.Links(); !slices.Equal(l, want) {
		p.t.Fatalf("Links = %v, want %v", l, want)
	}
}

// link holds how far a link is.
func (p *pair) link(link, next, acked int) {
	p.t.Helper()
	if n, a, ok := p.lead.Link(link); n != next || a != acked || !ok {
		p.t.Fatalf("Link(%d) = %d, %d, %t, want %d, %d", link, n, a, ok, next, acked)
	}
}

// holds holds all bytes that are there against the model: a link that goes on from the first one is sent them.
func (p *pair) holds() {
	p.t.Helper()
	if len(p.model.links) == api.MaxLinks {
		return
	}
	const link = 123456789
	first, _ := p.lead.Window()
	p.asks(link, p.model.h.ID, first, true)
	p.sends(link, greatest, p.model.there)
	p.drop(link)
}

// forgets holds who waits against the model, and leaves nobody.
func (p *pair) forgets() {
	p.t.Helper()
	for len(p.model.row) > 0 {
		number := p.model.row[len(p.model.row)/2].client
		if !p.leave(number) || p.leave(number) {
			p.t.Fatalf("Leave(%d) of one that waits once", number)
		}
	}
}
