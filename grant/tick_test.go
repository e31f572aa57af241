package grant_test

import (
	"testing"

	"wicket/api"
)

// P14.2: the clock goes up, never down; each Tick writes the clock alone.
func TestTickWritesTheClock(t *testing.T) {
	w := begun(t, 3)
	w.ask(tv())
	for _, now := range []uint64{0, 0, 1, 5, 5, 599, 1 << 40, 1 << 40, last - 1, last, last} {
		w.writes("a tick", []api.Change{clockAt(now)}, func() {
			if _, err := w.e.Tick(now); err != api.OK || w.e.Now() != now {
				t.Fatalf("Tick(%d): %d, it is %d", now, err, w.e.Now())
			}
		})
	}
}

// P14.2: a time below the clock.
func TestTickBack(t *testing.T) {
	w := begun(t, 3)
	w.at(100)
	w.ask(lasting(tv(), 50))
	for _, now := range []uint64{0, 99} {
		w.silent("a tick back", func() {
			if l, err := w.e.Tick(now); err != api.ErrGone || len(l) > 0 || w.e.Now() != 100 {
				t.Errorf("Tick(%d): %v, %d", now, l, err)
			}
		})
	}
	w.at(100)
	w.at(150, 1)
	w.silent("a tick back", func() {
		if l, err := w.e.Tick(149); err != api.ErrGone || len(l) > 0 {
			t.Errorf("Tick: %v, %d", l, err)
		}
	})
}

// P14.2: by rising Expiry, of one Expiry by rising Number.
func TestTickTellsInOrder(t *testing.T) {
	w := begun(t, 9)
	w.at(10)
	for _, life := range []uint64{30, 20, 30, 10, 20, 40, 31} {
		w.ask(lasting(till(), life))
	}
	w.at(19)
	w.at(40, 4, 2, 5, 1, 3)
	w.at(40)
	w.at(41, 7)
	w.at(49)
	w.at(50, 6)
	w.at(last)
}

// P14.2: one second ahead of the Expiry, and at it; once told, no more.
func TestTickAtTheExpiry(t *testing.T) {
	w := begun(t, 9)
	w.at(100)
	m := w.ask(lasting(tv(), 7))
	w.at(106)
	w.look("ann", m.User, api.OK)
	w.at(107, 1)
	w.look("ann", m.User, api.ErrGuess)
	w.at(107)
	w.at(108)
	w = w.again(api.Crash{})
	w.at(108)
	w.at(706)
	w.rows(1)
	w.at(707)
	w.rows()
}

// P14.2: what is approved is over at its time, what is denied or taken is not.
func TestTickTellsWhatIsOpen(t *testing.T) {
	w := begun(t, 9)
	approved, denied, taken := w.ask(till()), w.ask(till()), w.ask(till())
	w.ask(till())
	w.settle(approved, true)
	w.settle(denied, false)
	w.settle(taken, true)
	w.poll(taken, api.OK)
	w.at(119)
	w.at(120, 1, 4)
	w.rows(1, 2, 3, 4)
	w.poll(approved, api.ErrOver)
	w.poll(denied, api.ErrDenied)
	w.poll(taken, api.ErrGrant)
	w.at(720)
	w.rows()
}

// P14.2: what the same tick makes forgotten is told too, and what was over ahead of it is not.
func TestTickOverAllAtOnce(t *testing.T) {
	w := begun(t, 9)
	w.ask(lasting(tv(), 10))
	w.ask(lasting(tv(), 20))
	w.settle(w.ask(lasting(till(), 15)), true)
	w.settle(w.ask(lasting(till(), 15)), false)
	w.at(10, 1)
	w.at(5000, 3, 2)
	w.rows()
	w.at(6000)
}

// P14.2: times at the end: an Expiry and a sum with KeepLife that are cut off.
func TestTickAtTheEnd(t *testing.T) {
	w := begun(t, 9)
	w.at(last - 700)
	w.ask(lasting(tv(), 50))
	w.at(last-300, 1)
	w.ask(lasting(tv(), 300))
	w.ask(lasting(tv(), 3600))
	w.rows(1, 2, 3)
	w.at(last - 1)
	w.rows(2, 3)
	w.ask(tv())
	w.at(last, 2, 3, 4)
	w.rows()
	w.at(last)
}

// P14.3, 14.1: what is asked for in the last second is forgotten at once.
func TestAskAtTheEnd(t *testing.T) {
	w := begun(t, 1)
	w.at(last)
	for range 3 {
		m := w.ask(tv())
		w.rows()
		w.look("ann", m.User, api.ErrGuess)
		if _, err := w.e.Poll("tv", api.GrantDevice, m.Code); err != api.ErrGrant {
			t.Errorf("Poll: %d", err)
		}
	}
	w.at(last)
	if r := kept(t, w.d); len(r.Pending) != 1 || r.Pending[0].Number != 3 || r.Pending[0].Begun != last || r.Pending[0].Expiry != last {
		t.Errorf("%v", r)
	}
}

// P14.2, P14.17: the store's error: nothing is told, and the clock stays.
func TestTickOnADeadDisk(t *testing.T) {
	for n := 1; n <= 2; n++ {
		w := begun(t, 9)
		w.ask(lasting(tv(), 10))
		w.at(9)
		w.d.Arm(n)
		for _, want := range []api.Errno{api.ErrDead, api.ErrBroken} {
			if l, err := w.e.Tick(10); err != want || len(l) > 0 || w.e.Now() != 9 {
				t.Errorf("Tick: %v, %d, it is %d", l, err, w.e.Now())
			}
		}
		if l, err := w.e.Tick(8); err != api.ErrGone || len(l) > 0 {
			t.Errorf("Tick: %v, %d", l, err)
		}
		w.again(api.Crash{}).at(10, 1)
		if next := w.again(all()); n == 2 {
			next.at(10)
			next.at(11)
		} else {
			next.at(10, 1)
		}
	}
}
