package grant_test

import (
	"slices"
	"strings"
	"testing"

	"wicket/api"
)

// due is what is to be made of the request of m, which box asked for.
func due(m api.Made, tries int) api.Ping {
	return api.Ping{Number: m.Number, Client: "box", Notify: "tok", Code: m.Code, Tries: tries}
}

// P14.8: who asked to be told is owed a ping by a decision, yes or no; nobody else is.
func TestPingsBehindDecisions(t *testing.T) {
	w := begun(t, 9)
	w.at(30)
	device, polled, yes, no := w.ask(tv()), w.ask(till()), w.ask(box()), w.ask(box())
	w.ask(box())
	w.silent("Pings", func() { w.pings() })
	w.settle(device, true)
	w.settle(polled, true)
	w.settle(no, false)
	w.settle(yes, true)
	w.silent("Pings", func() { w.pings(due(yes, 0), due(no, 0)) })
	w = w.again(api.Crash{})
	w.pings(due(yes, 0), due(no, 0))
	w.poll(yes, api.OK)
	w.pings(due(no, 0))
}

// P14.8: so is who asked for what is over without a decision; Due is the Expiry, and the row stays as it is.
func TestPingsOfWhatIsOver(t *testing.T) {
	w := begun(t, 9)
	w.ask(tv())
	w.ask(till())
	first, second := w.ask(lasting(box(), 50)), w.ask(lasting(box(), 40))
	rows := w.e.All()
	w.at(39)
	w.pings()
	w.at(40, 4)
	w.pings(due(second, 0))
	w.at(300, 3, 2)
	w.pings(due(second, 0), due(first, 0))
	if !slices.Equal(w.e.All(), rows) {
		t.Errorf("%v", w.e.All())
	}
	w.at(639, 1)
	w.pings(due(second, 0), due(first, 0))
	w.at(640)
	w.pings(due(first, 0))
	w.at(650)
	w.pings()
}

// P14.8: by rising Due, of one Due by rising Number; what is not due is not told.
func TestPingsInOrder(t *testing.T) {
	w := begun(t, 9)
	var m []api.Made
	for _, life := range []uint64{100, 12, 100, 100, 12, 100, 10} {
		m = append(m, w.ask(lasting(box(), life)))
	}
	w.at(5)
	w.settle(m[3], true)
	w.at(10, 7)
	w.settle(m[5], false)
	w.settle(m[0], true)
	w.pings(due(m[3], 0), due(m[0], 0), due(m[5], 0), due(m[6], 0))
	w.pinged(4, api.OutcomeFailed, api.OK)
	w.pings(due(m[0], 0), due(m[5], 0), due(m[6], 0))
	w.at(11)
	w.pings(due(m[0], 0), due(m[5], 0), due(m[6], 0))
	w.at(12, 2, 5)
	w.pings(due(m[0], 0), due(m[5], 0), due(m[6], 0), due(m[1], 0), due(m[3], 1), due(m[4], 0))
	w.pinged(1, api.OutcomeFailed, api.OK)
	w.pings(due(m[5], 0), due(m[6], 0), due(m[1], 0), due(m[3], 1), due(m[4], 0))
}

// P14.8: what is told is what was asked with, and the auth_req_id.
func TestPingsTell(t *testing.T) {
	w := begun(t, 9)
	a := box()
	a.Client, a.Notify = "another box", strings.Repeat("!~", 64)
	m := w.ask(a)
	w.settle(m, false)
	w.pings(api.Ping{Number: 1, Client: "another box", Notify: a.Notify, Code: m.Code})
}

// P14.8: a request that is over and approved is owed its ping still, at the Due that it had; one that was told is owed none.
func TestPingsOverAndDecided(t *testing.T) {
	w := begun(t, 9)
	failed, told, stopped := w.ask(box()), w.ask(box()), w.ask(box())
	w.at(119)
	for _, m := range []api.Made{failed, told, stopped} {
		w.settle(m, true)
	}
	w.pinged(1, api.OutcomeFailed, api.OK)
	w.pinged(2, api.OutcomeDone, api.OK)
	w.pinged(3, api.OutcomeStop, api.OK)
	w.at(120, 1, 2, 3)
	w.pings()
	w.at(121)
	w.pings(due(failed, 1))
	w.pinged(2, api.OutcomeDone, api.ErrNone)
	w.pinged(3, api.OutcomeDone, api.ErrNone)
}

// P14.9: what an attempt makes of the row, decided or over: one record.
func TestPingedMakesOneRecord(t *testing.T) {
	for _, over := range []bool{false, true} {
		for outcome, ping := range map[int]int{api.OutcomeFailed: 1, api.OutcomeDone: 2, api.OutcomeStop: 3} {
			w := begun(t, 9)
			m := w.ask(box())
			want := w.row(1)
			if over {
				w.at(120, 1)
				want.Due = 120
			} else {
				w.at(100)
				w.settle(m, true)
				want = w.row(1)
			}
			w.e.Tick(150)
			want.Ping, want.Tries = ping, 1
			if outcome == api.OutcomeFailed {
				want.Due = 152
			}
			w.writes("an attempt", []api.Change{alter(want)}, func() { w.pinged(1, outcome, api.OK) })
			if p := w.row(1); p != want {
				t.Errorf("%v, not %v", p, want)
			}
			w.pings()
		}
	}
}

// P14.9: an attempt ahead of its Due counts as well.
func TestPingedAheadOfDue(t *testing.T) {
	w := begun(t, 9)
	m := w.ask(box())
	w.settle(m, false)
	for tries, wait := range []uint64{2, 4, 8} {
		w.pinged(1, api.OutcomeFailed, api.OK)
		if p := w.row(1); p.Tries != tries+1 || p.Due != wait || p.Ping != 1 {
			t.Errorf("%v", p)
		}
	}
	w.at(7)
	w.pings()
	w.at(8)
	w.pings(due(m, 3))
}

// P14.9: the pace, and the last attempt.
func TestPingedUpToTheLast(t *testing.T) {
	for _, at := range []uint64{0, 119} {
		for _, final := range []int{api.OutcomeFailed, api.OutcomeDone, api.OutcomeStop} {
			w := begun(t, 9)
			m := w.ask(lasting(box(), 3600))
			w.at(at)
			w.settle(m, true)
			now := at
			for tries, wait := range []uint64{2, 4, 8, 16, 32, 64, 128} {
				w.pings(due(m, tries))
				w.pinged(1, api.OutcomeFailed, api.OK)
				w.pings()
				w.at(now + wait - 1)
				w.pings()
				now += wait
				w.at(now)
				if tries == 3 {
					w = w.again(api.Crash{})
				}
			}
			w.pings(due(m, 7))
			w.pinged(1, final, api.OK)
			want := 3
			if final == api.OutcomeDone {
				want = 2
			}
			if p := w.row(1); p.Ping != want || p.Tries != 8 || p.Due != now {
				t.Errorf("%v", p)
			}
			w.silent("none is owed", func() {
				w.pings()
				w.pinged(1, api.OutcomeFailed, api.ErrNone)
			})
			w.e.Tick(now + 300)
			w.pings()
		}
	}
}

// P14.9: ErrNone ahead of ErrOutcome, that ahead of the record.
func TestPingedWrong(t *testing.T) {
	w := begun(t, 9)
	w.settle(w.ask(tv()), true)
	w.settle(w.ask(till()), true)
	waiting, taken, told, owed := w.ask(lasting(box(), 3000)), w.ask(box()), w.ask(box()), w.ask(box())
	for _, m := range []api.Made{taken, told, owed} {
		w.settle(m, true)
	}
	w.poll(taken, api.OK)
	w.pinged(told.Number, api.OutcomeDone, api.OK)
	outcomes := []int{-1 << 63, -1, 0, 1, 2, 3, 1<<63 - 1}
	for _, number := range []uint64{0, 1, 2, waiting.Number, taken.Number, told.Number, 7, last} {
		for _, outcome := range outcomes {
			w.silent("none", func() { w.pinged(number, outcome, api.ErrNone) })
		}
	}
	for _, outcome := range outcomes {
		if outcome < 0 || outcome > 2 {
			w.silent("an outcome", func() { w.pinged(owed.Number, outcome, api.ErrOutcome) })
		}
	}
	w.pings(due(owed, 0))
	w.e.Tick(720)
	w.silent("forgotten", func() {
		w.pings()
		for _, outcome := range outcomes {
			w.pinged(owed.Number, outcome, api.ErrNone)
		}
	})
}

// P14.9: a Due that is cut off at the last second, at which all is forgotten.
func TestPingedAtTheEnd(t *testing.T) {
	w := begun(t, 9)
	w.at(last - 3)
	m := w.ask(box())
	w.settle(m, true)
	w.pinged(1, api.OutcomeFailed, api.OK)
	if p := w.row(1); p.Due != last-1 {
		t.Errorf("%v", p)
	}
	w.at(last - 1)
	w.pings(due(m, 1))
	w.pinged(1, api.OutcomeFailed, api.OK)
	if p := w.row(1); p.Due != last || p.Tries != 2 {
		t.Errorf("%v", p)
	}
	w.pings()
	w.at(last, 1)
	w.pings()
	w.pinged(1, api.OutcomeDone, api.ErrNone)
}

// P14.9: the store's error: the ping is owed as it was.
func TestPingedOnADeadDisk(t *testing.T) {
	for n := 1; n <= 2; n++ {
		w := begun(t, 9)
		m := w.ask(box())
		w.settle(m, true)
		w.d.Arm(n)
		w.pinged(1, api.OutcomeDone, api.ErrDead)
		w.pinged(1, api.OutcomeDone, api.ErrBroken)
		w.pinged(1, 7, api.ErrOutcome)
		w.pinged(7, 0, api.ErrNone)
		w.pings(due(m, 0))
		w.again(api.Crash{}).pings(due(m, 0))
		if behind := w.again(all()); n == 2 {
			behind.pings()
		} else {
			behind.pings(due(m, 0))
		}
	}
}
