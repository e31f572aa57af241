package grant_test

import (
	"slices"

	"wicket/api"
)

// asked is a request as those outside know it, who saw the answers alone.
type asked struct {
	api.Made
	ask      api.Ask
	begun    uint64
	yes      []string // who said so; what was not answered may be among it
	denied   bool     // perhaps
	no       bool
	tokens   int
	taken    bool // perhaps
	told     int  // as over
	polled   bool
	at       uint64 // of the last Poll
	interval uint64
	unsure   bool // of the pace, since the power failed in the midst of a Poll
	attempts int
	done     bool
}

// witness holds what is answered in a life against what follows of the chapter (14.8).
type witness []*asked

// of is the request with that number; none, if the Ask was not answered.
func (w witness) of(number uint64) *asked {
	at := slices.IndexFunc(w, func(a *asked) bool { return a.Number == number })
	if at < 0 {
		return nil
	}
	return w[at]
}

// meant is the request on which c is a call, by the rows ahead of it.
func (w witness) meant(rows api.Rows, c call) *asked {
	at := slices.IndexFunc(rows.Pending, func(p api.Pending) bool {
		switch {
		case c.name == "Poll":
			return p.Handle == handle(byte(c.grant), c.code)
		case c.name == "Pinged":
			return p.Number == c.number
		case c.decision.Typed != "":
			return p.Code != "" && p.Code == slowNormal(c.decision.Typed)
		}
		return p.Number == c.decision.Number
	})
	if at < 0 {
		return nil
	}
	return w.of(rows.Pending[at].Number)
}

// halfDone: in the midst of c, which would have written, the power failed.
func (w witness) halfDone(m *slow, c call) {
	if c.name != "Poll" && c.name != "Decide" {
		return
	}
	a := w.meant(m.rows, c)
	switch {
	case a == nil:
	case c.name == "Poll":
		a.unsure, a.taken = true, true
	case c.decision.Yes:
		a.yes = append(a.yes, c.subject)
	default:
		a.denied = true
	}
}

// answered: c was answered so.
func (w *witness) answered(l *life, c call, got answer) {
	l.t.Helper()
	switch {
	case c.name == "Ask" && got.err == api.OK:
		if w.of(got.made.Number) != nil {
			l.t.Fatalf("%d is made twice", got.made.Number)
		}
		*w = append(*w, &asked{Made: got.made, ask: c.ask, begun: l.m.Now(), interval: api.FirstInterval})
	case c.name == "Tick" && got.err == api.OK:
		w.ticked(l, c.now, got.numbers)
	case c.name == "Decide" && got.err == api.OK:
		w.decided(l, c)
	case c.name == "Poll":
		w.pollAnswered(l, c, got)
	case c.name == "Pinged" && got.err == api.OK:
		w.attempted(l, c)
	}
	for _, p := range l.e.Pings() {
		if a := w.of(p.Number); a != nil && (a.done || a.ask.Flow != api.FlowPing || a.attempts >= api.PingAttempts) {
			l.t.Fatalf("%d has its ping owed", p.Number)
		}
	}
}

// ticked: P14.17.
func (w witness) ticked(l *life, now uint64, told []uint64) {
	l.t.Helper()
	for _, a := range w {
		expiry := sum(a.begun, a.Life)
		isTold := slices.Contains(told, a.Number)
		passed := l.m.Now() < expiry && expiry <= now
		if isTold {
			a.told++
		}
		if isTold && (!passed || a.no || a.tokens > 0 || a.told > 1) {
			l.t.Fatalf("%d is told as over at %d", a.Number, now)
		}
		if passed && !isTold && !a.no && !a.denied && !a.taken {
			l.t.Fatalf("%d is not told as over at %d", a.Number, now)
		}
	}
}

func (w witness) decided(l *life, c call) {
	l.t.Helper()
	a := w.meant(l.m.rows, c)
	switch {
	case a == nil:
	case a.ask.Message != c.decision.Message:
		l.t.Fatalf("%d is decided by another message", a.Number)
	case c.decision.Yes:
		a.yes = append(a.yes, c.subject)
	default:
		a.no, a.denied = true, true
	}
}

// pollAnswered: P14.12, P14.14.
func (w witness) pollAnswered(l *life, c call, got answer) {
	l.t.Helper()
	a := w.meant(l.m.rows, c)
	if a == nil || got.err != api.OK && got.err != api.ErrWait && got.err != api.ErrSlow {
		return
	}
	now := l.m.Now()
	soon := a.polled && now < sum(a.at, a.interval)
	if !a.unsure && soon != (got.err == api.ErrSlow) {
		l.t.Fatalf("%d is polled for at %d, behind %d with %d: %d", a.Number, now, a.at, a.interval, got.err)
	}
	if got.err == api.ErrSlow {
		a.interval += api.SlowStep
	}
	a.polled, a.at = true, now
	if got.err != api.OK {
		return
	}
	want := api.Issued{Number: a.Number, Client: c.client, Subject: got.issued.Subject, Scope: a.ask.Scope, Issued: now, Expires: sum(now, api.TokenLife)}
	if a.tokens > 0 || a.no || !slices.Contains(a.yes, got.issued.Subject) || a.ask.Client != c.client || now >= sum(a.begun, a.Life) || got.issued != want {
		l.t.Fatalf("%+v is issued for %+v", got.issued, *a)
	}
	a.tokens, a.taken = 1, true
}

// attempted: P14.18.
func (w witness) attempted(l *life, c call) {
	l.t.Helper()
	a := w.of(c.number)
	if a == nil {
		return
	}
	if a.attempts++; a.done || a.attempts > api.PingAttempts {
		l.t.Fatalf("%d is told %d times", a.Number, a.attempts)
	}
	a.done = c.outcome != api.OutcomeFailed
}
