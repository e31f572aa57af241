package grant_test

import (
	"testing"

	"wicket/api"
	"wicket/codes"
)

func zeros(n int) *codes.Source { return codes.NewSource(make([]byte, n)) }

// P14.3, P14.4, P14.6, P14.7: the chapter's first and second example.
func TestExampleDevice(t *testing.T) {
	w := begun(t, 2)
	w.at(100)
	m, err := w.e.Ask(tv(), zeros(40))
	if err != api.OK || m.Number != 1 || len(m.Code) != 43 || m.User != "BBBB-BBBB" || m.Life != 600 || m.Interval != 5 {
		t.Fatalf("Ask: %v, %d", m, err)
	}
	w.poll(m, api.ErrWait)
	w.poll(m, api.ErrSlow)
	if w.row(1).Interval != 10 {
		t.Errorf("the interval is %d", w.row(1).Interval)
	}
	w.at(110)
	w.poll(m, api.ErrWait)
	if i, err := w.e.Poll("box", api.GrantDevice, m.Code); err != api.ErrGrant || i != (api.Issued{}) {
		t.Errorf("Poll: %v, %d", i, err)
	}
	if s := w.look("ann", "bbbb bbbb", api.OK); s != (api.Seen{Number: 1, Client: "tv", Scope: "read"}) {
		t.Errorf("Look: %v", s)
	}
	w.decide("ann", api.Decision{Typed: "BBBB-BBBB", Yes: true}, api.OK)
	w.decide("ann", api.Decision{Typed: "BBBB-BBBB", Yes: true}, api.ErrGuess)
	w.at(120)
	if i := w.poll(m, api.OK); i != (api.Issued{Number: 1, Client: "tv", Subject: "ann", Scope: "read", Issued: 120, Expires: 3720}) {
		t.Errorf("Poll: %v", i)
	}
	w.poll(m, api.ErrGrant)
}

// P14.4: the third example.
func TestExampleGuesses(t *testing.T) {
	w := begun(t, 2)
	w.at(7)
	for range 5 {
		w.look("ann", "bbbb", api.ErrGuess)
	}
	w.look("ann", "bbbb", api.ErrSpent)
	w.at(66)
	w.look("ann", "bbbb", api.ErrSpent)
	w.at(67)
	w.look("ann", "bbbb", api.ErrGuess)
}

// P14.5, P14.6, P14.8, P14.9: the fourth example.
func TestExamplePings(t *testing.T) {
	w := begun(t, 2)
	w.ask(tv())
	w.at(20)
	m, err := w.e.Ask(api.Ask{Flow: 3, Client: "box", Scope: "pay", Subject: "ann", Message: "42", Notify: "tok"}, zeros(24))
	if err != api.OK || m.Number != 2 || m.User != "" || m.Life != 120 {
		t.Fatalf("Ask: %v, %d", m, err)
	}
	if l := w.e.Waiting("ann"); len(l) != 1 || l[0] != (api.Seen{Number: 2, Client: "box", Scope: "pay", Message: "42"}) {
		t.Errorf("Waiting: %v", l)
	}
	w.decide("ann", api.Decision{Number: 2, Message: "41", Yes: true}, api.ErrOther)
	w.pings()
	w.decide("ann", api.Decision{Number: 2, Message: "42", Yes: true}, api.OK)
	w.pings(api.Ping{Number: 2, Client: "box", Notify: "tok", Code: m.Code})
	w.pinged(2, api.OutcomeFailed, api.OK)
	w.pings()
	w.at(21)
	w.pings()
	w.at(22)
	w.pings(api.Ping{Number: 2, Client: "box", Notify: "tok", Code: m.Code, Tries: 1})
	w.pinged(2, api.OutcomeDone, api.OK)
	w.pings()
}

// P14.2, P14.7: the fifth example.
func TestExampleExpiry(t *testing.T) {
	w := begun(t, 2)
	m := w.ask(till())
	w.at(120, 1)
	w.poll(m, api.ErrOver)
	w.at(719)
	w.poll(m, api.ErrOver)
	w.at(720)
	if _, err := w.e.Poll("till", api.GrantCiba, m.Code); err != api.ErrGrant {
		t.Errorf("Poll: %d", err)
	}
}
