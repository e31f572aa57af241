package grant_test

import (
	"bytes"
	"math/rand"
	"slices"
	"strings"
	"testing"

	"wicket/api"
	"wicket/codes"
	"wicket/grant"
	"wicket/store"
)

// call is one of an engine's, with all that any of them takes.
type call struct {
	name           string
	now, number    uint64
	ask            api.Ask
	draws          []byte
	subject, typed string
	decision       api.Decision
	client, code   string
	grant, outcome int
}

// answer is what a call answers, and how many bytes it leaves of the draws.
type answer struct {
	err     api.Errno
	numbers []uint64
	made    api.Made
	seen    api.Seen
	issued  api.Issued
	left    int
}

func (a answer) is(b answer) bool {
	return a.err == b.err && slices.Equal(a.numbers, b.numbers) && a.made == b.made && a.seen == b.seen && a.issued == b.issued && a.left == b.left
}

func (c call) on(e engine) (a answer) {
	switch c.name {
	case "Tick":
		a.numbers, a.err = e.Tick(c.now)
	case "Ask":
		s := codes.NewSource(c.draws)
		a.made, a.err = e.Ask(c.ask, s)
		a.left = s.Left()
	case "Look":
		a.seen, a.err = e.Look(c.subject, c.typed)
	case "Decide":
		a.err = e.Decide(c.subject, c.decision)
	case "Poll":
		a.issued, a.err = e.Poll(c.client, c.grant, c.code)
	case "Pinged":
		a.err = e.Pinged(c.number, c.outcome)
	case "Compact":
		a.err = e.Compact()
	}
	return a
}

// life is an engine and a slow one to which the same is done.
type life struct {
	*world
	r      *rand.Rand
	m      *slow
	room   int
	codes  []string
	faulty bool       // the disk may have errors
	half   []api.Rows // what the rows may be behind the call in whose midst the power failed
	heard  map[string]int
	witness
}

func newLife(t *testing.T, seed int64, room int) *life {
	r := rand.New(rand.NewSource(seed))
	most := 1 + r.Intn(7)
	l := &life{world: on(t, diskOf(t, room), most), r: r, room: room, m: newSlow(most, api.Rows{}), faulty: room < roomy, heard: map[string]int{}}
	l.m.rows = kept(t, l.d)
	if begin := pick(r, 0, 0, 1000, last-2000); l.e.Now() != begin {
		l.step(call{name: "Tick", now: begin})
	}
	return l
}

func pick[T any](r *rand.Rand, l ...T) T { return l[r.Intn(len(l))] }

// time is one that is near something, and mostly not below the clock.
func (l *life) time() uint64 {
	now := l.m.Now()
	times := []uint64{now, sum(now, 1), sum(now, 5), sum(now, 60), sum(now, uint64(l.r.Intn(20)))}
	for _, p := range l.m.rows.Pending {
		for _, at := range []uint64{p.Expiry, sum(p.Expiry, 600), sum(p.Polled, p.Interval), p.Due} {
			if at >= now && at < sum(now, 100) || l.r.Intn(20) == 0 {
				times = append(times, at, at-1)
			}
		}
	}
	switch l.r.Intn(60) {
	case 0:
		return now - 1
	case 1:
		return sum(now, uint64(l.r.Intn(1500)))
	}
	return max(now, pick(l.r, times...))
}

// drawnAsk is one that is right, mostly.
func (l *life) drawnAsk() api.Ask {
	a := pick(l.r, tv(), till(), box())
	a.Life = pick(l.r, 0, 0, uint64(1+l.r.Intn(200)), 3600)
	if a.Subject != "" {
		a.Subject = pick(l.r, "ann", "bob")
	}
	if l.r.Intn(20) == 0 {
		a.Message = pick(l.r, "", "x\x00", strings.Repeat("m", 129))
	}
	switch l.r.Intn(60) {
	case 0:
		a.Flow = l.r.Intn(6) - 1
	case 1:
		a.Subject = pick(l.r, "", strings.Repeat("n", 65), "n\n")
	case 2:
		a.Notify = pick(l.r, "", "a b", "other", strings.Repeat("t", 129))
	case 3:
		a.Life = pick(l.r, 3601, last)
	case 4:
		a.Client = pick(l.r, "", "\n", strings.Repeat("c", 65))
	}
	return a
}

// drawn bytes are few different ones, so that codes clash, or all sorts of them.
func (l *life) drawn() []byte {
	b := make([]byte, 40)
	switch l.r.Intn(8) {
	case 0, 1:
		return bytes.Repeat([]byte{0}, pick(l.r, 400, 400, l.r.Intn(60)))
	case 2, 3, 4:
		var parts []byte
		for range l.r.Intn(30) {
			parts = append(parts, bytes.Repeat([]byte{byte(pick(l.r, 0, 1, 2, 3, 255))}, pick(l.r, 8, 24, 32))...)
		}
		return parts
	}
	l.r.Read(b)
	return append(b, b...)
}

// typed is what somebody may type: mostly a user code that is there.
func (l *life) typing() string {
	text := pick(l.r, "", "BCDF", "bcdf-ghjk", "AAAAAAAA")
	for _, p := range l.m.rows.Pending {
		if p.Code != "" && l.r.Intn(2) == 0 {
			text = pick(l.r, p.Code, strings.ToLower(p.Code), p.Code[:4]+"-"+p.Code[4:])
		}
	}
	return text
}

// row is one that is there, or none.
func (l *life) some() api.Pending {
	return pick(l.r, append(slices.Clone(l.m.rows.Pending), api.Pending{Number: uint64(l.r.Intn(20)), Client: "tv"})...)
}

func (l *life) who() string {
	return pick(l.r, "ann", "ann", "bob", "bob", "eve", "", strings.Repeat("n", 65), "n\n")
}

// next is a call that is drawn.
func (l *life) next() call {
	p := l.some()
	switch l.r.Intn(20) {
	case 0, 1, 2, 3, 4:
		return call{name: "Tick", now: l.time()}
	case 5, 6, 7:
		return call{name: "Ask", ask: l.drawnAsk(), draws: l.drawn()}
	case 8:
		return call{name: "Look", subject: l.who(), typed: l.typing()}
	case 9:
		d := api.Decision{Typed: l.typing(), Number: p.Number, Yes: l.r.Intn(3) > 0}
		return call{name: "Decide", subject: l.who(), decision: d}
	case 10, 11, 12:
		d := api.Decision{Number: p.Number, Message: p.Message, Yes: l.r.Intn(4) > 0}
		if l.r.Intn(10) == 0 {
			d.Message = pick(l.r, "", "other")
		}
		who := p.Subject
		if l.r.Intn(8) == 0 {
			who = l.who()
		}
		return call{name: "Decide", subject: who, decision: d}
	case 13, 14, 15, 16:
		return l.nextPoll()
	case 17, 18:
		return call{name: "Pinged", number: p.Number, outcome: pick(l.r, 0, 0, 0, 0, 1, 2, -1, 3)}
	}
	return call{name: "Compact"}
}

// nextPoll is one with a code that was once told, mostly.
func (l *life) nextPoll() call {
	c := call{name: "Poll", client: pick(l.r, "tv", "till", "box"), grant: l.r.Intn(4), code: "none"}
	if len(l.codes) == 0 {
		return c
	}
	c.code = l.codes[max(0, len(l.codes)-1-l.r.Intn(8))]
	if l.r.Intn(12) > 0 {
		for _, p := range l.m.rows.Pending {
			for kind := range byte(2) {
				if p.Handle == handle(kind+1, c.code) {
					c.client, c.grant = p.Client, int(kind)+1
				}
			}
		}
	}
	return c
}

// step does one call to both, and holds the answers and all that can be seen against each other.
func (l *life) step(c call) {
	l.t.Helper()
	want := c.on(l.m)
	dead, ops := l.d.Dead(), l.d.Count()
	got := c.on(l.e)
	writing := len(l.m.record) > 0
	broken := slices.Contains([]api.Errno{api.ErrDead, api.ErrBroken, api.ErrFull}, got.err)
	switch {
	case l.faulty && broken && c.name == "Compact":
	case l.faulty && broken && writing:
		if !got.is(answer{err: got.err, left: want.left}) {
			l.t.Fatalf("%+v: %+v", c, got)
		}
		if l.d.Dead() && !dead {
			half, _, _ := store.Apply(l.m.rows, l.most, l.m.record)
			l.half = append(l.half, half)
			l.halfDone(l.m, c)
		}
		l.m.record = nil
	case !got.is(want):
		l.t.Fatalf("%+v: %+v, not %+v, of\n%+v", c, got, want, l.m.rows)
	default:
		l.isWritten(c, ops)
		l.answered(l, c, got)
		l.m.done()
	}
	if got.made.Code != "" {
		l.codes = append(l.codes, got.made.Code)
	}
	l.heard[c.name]++
	l.heard["error "+string(rune('0'+got.err/100))+string(rune('0'+got.err/10%10))+string(rune('0'+got.err%10))]++
	l.check(c)
}

// isWritten: a call that writes has written its record, all others nothing.
func (l *life) isWritten(c call, ops int) {
	l.t.Helper()
	done := l.d.Count() - ops
	switch {
	case c.name == "Compact":
		return
	case len(l.m.record) == 0 && done != 0, len(l.m.record) > 0 && done == 0:
		l.t.Fatalf("%+v: %d operations for %v", c, done, l.m.record)
	case done == 0 || l.r.Intn(4) > 0:
		return
	}
	_, records := lies(l.t, l.d)
	if n := len(records); n == 0 || !slices.Equal(records[n-1], l.m.record) {
		l.t.Fatalf("%+v: there lies\n%v\nnot\n%v", c, records, l.m.record)
	}
}

// check: all that asks alone answers what the slow one answers.
func (l *life) check(c call) {
	l.t.Helper()
	ops := l.d.Count()
	who := pick(l.r, "ann", "bob", "")
	if got, want := l.e.All(), l.m.All(); !slices.Equal(got, want) {
		l.t.Fatalf("behind %+v, All:\n%v\nnot\n%v", c, got, want)
	}
	if got, want := l.e.Pings(), l.m.Pings(); !slices.Equal(got, want) {
		l.t.Fatalf("behind %+v, Pings:\n%v\nnot\n%v", c, got, want)
	}
	if got, want := l.e.Waiting(who), l.m.Waiting(who); !slices.Equal(got, want) {
		l.t.Fatalf("behind %+v, Waiting:\n%v\nnot\n%v", c, got, want)
	}
	if l.e.Now() != l.m.Now() || l.d.Count() != ops {
		l.t.Fatalf("behind %+v it is %d, not %d", c, l.e.Now(), l.m.Now())
	}
}

// restart has the power fail now, if it has not, and an engine opened on what is left.
func (l *life) restart() {
	l.t.Helper()
	for {
		files := l.d.Left(drawnCrash(l.r))
		l.d = diskOf(l.t, l.room, files...)
		l.d.Arm(pick(l.r, 0, 0, 1+l.r.Intn(8)))
		e, err := grant.Open(l.d, l.most)
		if err == api.OK {
			l.e = e
			break
		}
		if err != api.ErrDead || e != nil {
			l.t.Fatalf("Open: %v, %d", e, err)
		}
	}
	l.d.Arm(0)
	rows := kept(l.t, l.d)
	if !same(rows, l.m.rows) && !(len(l.half) > 0 && same(rows, l.half[0])) {
		l.t.Fatalf("there are\n%v\nbehind\n%v", rows, l.m.rows)
	}
	if !same(rows, l.m.rows) {
		l.heard["half"]++
	}
	l.m = newSlow(l.most, rows)
	l.half = nil
	l.check(call{name: "Open"})
}

// P14.1 to P14.10: an engine answers, writes and keeps what the slow one does, over drawn calls.
func TestEngineIsTheSlowEngine(t *testing.T) {
	heard := map[string]int{}
	for seed := range int64(60) {
		l := newLife(t, seed, roomy)
		l.heard = heard
		for i := range 400 {
			l.step(l.next())
			switch i % 100 {
			case 50:
				guess := call{name: "Look", subject: pick(l.r, "ann", "bob"), typed: l.typing()}
				for range 7 {
					l.step(guess)
				}
			case 99:
				l.restart()
			}
		}
	}
	for _, what := range []string{"Tick", "Ask", "Look", "Decide", "Poll", "Pinged", "Compact", "error 000", "error 002", "error 005", "error 007", "error 070", "error 080", "error 090", "error 120", "error 130", "error 140", "error 141", "error 142", "error 143", "error 144", "error 145", "error 146", "error 147", "error 148"} {
		if heard[what] < 10 {
			t.Errorf("%s was heard %d times", what, heard[what])
		}
	}
}

// P14.13: lives of many power failures, in much room and in little, at any operation and in the midst of opening.
func TestLives(t *testing.T) {
	heard := map[string]int{}
	for seed := range int64(120) {
		room := roomy
		if seed%3 == 0 {
			room = 400 + int(seed)*20
		}
		l := newLife(t, 1000+seed, room)
		l.heard, l.faulty = heard, true
		for range 12 {
			l.d.Arm(pick(l.r, 0, 1+l.r.Intn(40), 1+l.r.Intn(6)))
			for range 1 + l.r.Intn(40) {
				l.step(l.next())
			}
			l.restart()
		}
	}
	for _, what := range []string{"half", "error 051", "error 060", "error 005", "error 141"} {
		if heard[what] < 10 {
			t.Errorf("%s was heard %d times", what, heard[what])
		}
	}
}
