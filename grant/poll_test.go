package grant_test

import (
	"slices"
	"strings"
	"testing"

	"wicket/api"
)

// P14.7: grants that are none, codes that are none or another kind's, another client's.
func TestPollGrant(t *testing.T) {
	w := begun(t, 9)
	device, ciba := w.ask(tv()), w.ask(till())
	w.settle(device, true)
	w.settle(ciba, true)
	for _, c := range []struct {
		what, client string
		grant        int
		code         string
	}{
		{"no grant", "tv", 0, device.Code},
		{"a grant too many", "tv", 3, device.Code},
		{"a grant below", "tv", -1, device.Code},
		{"another grant", "tv", 2, device.Code},
		{"another grant", "till", 1, ciba.Code},
		{"another client", "till", 1, device.Code},
		{"another client", "tv", 2, ciba.Code},
		{"part of a client", "t", 1, device.Code},
		{"more than a client", "tvs", 1, device.Code},
		{"no client", "", 1, device.Code},
		{"no client and no code", "", 1, ""},
		{"no client and no code", "", 2, "x"},
		{"no client, no grant, no code", "", 0, ""},
		{"no code", "tv", 1, ""},
		{"part of a code", "tv", 1, device.Code[:42]},
		{"more than a code", "tv", 1, device.Code + "A"},
		{"a user code", "tv", 1, device.User},
		{"a long code", "tv", 1, strings.Repeat("A", 64)},
		{"a code with no handle", "tv", 1, strings.Repeat("A", 65)},
		{"a code with no handle", "till", 2, strings.Repeat("A", 5000)},
		{"a handle", "tv", 1, w.row(1).Handle},
	} {
		w.silent(c.what, func() {
			if i, err := w.e.Poll(c.client, c.grant, c.code); err != api.ErrGrant || i != (api.Issued{}) {
				t.Errorf("%s: %v, %d", c.what, i, err)
			}
		})
	}
	w.poll(device, api.OK)
	w.poll(ciba, api.OK)
}

// P14.7: the pace, second by second; each Poll writes just one record.
func TestPollPace(t *testing.T) {
	w := begun(t, 9)
	m := w.ask(tv())
	w.at(1)
	p := w.row(1)
	polls := func(now uint64, want api.Errno, interval uint64) {
		t.Helper()
		w.at(now)
		p.Asked, p.Polled, p.Interval = true, now, interval
		w.writes("a poll", []api.Change{alter(p)}, func() { w.poll(m, want) })
		if w.row(1) != p {
			t.Fatalf("%v, not %v", w.row(1), p)
		}
	}
	polls(1, api.ErrWait, 5)
	polls(6, api.ErrWait, 5)
	polls(10, api.ErrSlow, 10)
	polls(20, api.ErrWait, 10)
	polls(20, api.ErrSlow, 15)
	polls(34, api.ErrSlow, 20)
	polls(53, api.ErrSlow, 25)
	polls(78, api.ErrWait, 25)
	w = w.again(api.Crash{})
	polls(102, api.ErrSlow, 30)
	polls(132, api.ErrWait, 30)
	polls(599, api.ErrWait, 30)
}

// P14.7: the first Poll is not too soon, whatever the time.
func TestPollFirst(t *testing.T) {
	for _, now := range []uint64{0, 1, 4, 5, 119} {
		w := begun(t, 9)
		m := w.ask(till())
		w.at(now)
		w.poll(m, api.ErrWait)
		w.poll(m, api.ErrSlow)
	}
}

// P14.7: the token: what it says, and that the request is taken by one record.
func TestPollTakes(t *testing.T) {
	for _, asked := range []bool{true, false} {
		for flow, a := range map[int]api.Ask{1: tv(), 2: till(), 3: box()} {
			w := begun(t, 9)
			m := w.ask(a)
			if asked {
				w.poll(m, api.ErrWait)
			}
			w.settle(m, true)
			w.at(33)
			want := w.row(1)
			want.Status, want.Asked, want.Polled = 4, true, 33
			if flow == 3 {
				want.Ping = 3
			}
			w.writes("a token", []api.Change{alter(want)}, func() {
				i := w.poll(m, api.OK)
				if i != (api.Issued{Number: 1, Client: a.Client, Subject: "ann", Scope: a.Scope, Issued: 33, Expires: 3633}) {
					t.Errorf("%v", i)
				}
			})
			if w.row(1) != want {
				t.Errorf("%v, not %v", w.row(1), want)
			}
			w.pings()
			for _, now := range []uint64{33, 500, 700, 9999} {
				w.e.Tick(now)
				w.silent("a poll for what is taken", func() {
					if i, err := w.e.Poll(a.Client, grantOf(flow), m.Code); err != api.ErrGrant || i != (api.Issued{}) {
						t.Errorf("%v, %d", i, err)
					}
				})
			}
		}
	}
}

// P14.7: a ping that is told or given up stays so when the request is taken, with its Tries and Due.
func TestPollBehindPings(t *testing.T) {
	for outcome, ping := range map[int]int{api.OutcomeDone: 2, api.OutcomeStop: 3, api.OutcomeFailed: 3} {
		w := begun(t, 9)
		m := w.ask(box())
		w.settle(m, true)
		w.pinged(1, outcome, api.OK)
		want := w.row(1)
		want.Status, want.Asked, want.Ping = 4, true, ping
		w.poll(m, api.OK)
		if p := w.row(1); p != want || p.Tries != 1 {
			t.Errorf("%v, not %v", p, want)
		}
		w.pinged(1, api.OutcomeDone, api.ErrNone)
	}
}

// P14.7: what is approved can be polled for too soon as well.
func TestPollTooSoonForTheToken(t *testing.T) {
	w := begun(t, 9)
	m := w.ask(till())
	w.poll(m, api.ErrWait)
	w.settle(m, true)
	w.at(4)
	p := w.row(1)
	p.Polled, p.Interval = 4, 10
	w.writes("too soon", []api.Change{alter(p)}, func() { w.poll(m, api.ErrSlow) })
	w.at(13)
	w.poll(m, api.ErrSlow)
	w.at(27)
	w.poll(m, api.ErrSlow)
	w.at(47)
	w.poll(m, api.OK)
}

// P14.7: over, at the Expiry and a second ahead of it, and denied: whatever the pace; nothing is written.
func TestPollWhatIsPast(t *testing.T) {
	w := begun(t, 9)
	waiting, approved, denied, taken := w.ask(till()), w.ask(till()), w.ask(till()), w.ask(till())
	w.settle(approved, true)
	w.settle(denied, false)
	w.settle(taken, true)
	w.poll(taken, api.OK)
	w.at(118)
	w.poll(waiting, api.ErrWait)
	w.at(119)
	w.poll(waiting, api.ErrSlow)
	w.silent("denied", func() {
		w.poll(denied, api.ErrDenied)
		w.poll(denied, api.ErrDenied)
	})
	for _, now := range []uint64{120, 719} {
		w.e.Tick(now)
		w.silent("past", func() {
			for range 2 {
				w.poll(waiting, api.ErrOver)
				w.poll(approved, api.ErrOver)
				w.poll(denied, api.ErrDenied)
				w.poll(taken, api.ErrGrant)
			}
		})
	}
	if _, err := w.e.Poll("tv", api.GrantCiba, waiting.Code); err != api.ErrGrant {
		t.Errorf("another client's: %d", err)
	}
	w.at(720)
	for _, m := range []api.Made{waiting, approved, denied, taken} {
		if _, err := w.e.Poll("till", api.GrantCiba, m.Code); err != api.ErrGrant {
			t.Errorf("forgotten: %d", err)
		}
	}
}

// P14.7: sums of times that are cut off: in the last second nothing is too soon, but what is asked for then is over.
func TestPollAtTheEnd(t *testing.T) {
	w := begun(t, 9)
	w.at(last - 100)
	w.ask(tv())
	m := w.ask(tv())
	w.at(last - 3)
	w.poll(m, api.ErrWait)
	w.at(last - 1)
	w.poll(m, api.ErrSlow)
	w.poll(m, api.ErrSlow)
	w.decide("ann", api.Decision{Typed: m.User, Yes: true}, api.OK)
	w.poll(m, api.ErrSlow)
	if p := w.row(2); p.Interval != 20 || p.Polled != last-1 {
		t.Errorf("%v", p)
	}
	other := w.ask(tv())
	w.settle(other, true)
	if i := w.poll(other, api.OK); i.Issued != last-1 || i.Expires != last {
		t.Errorf("%v", i)
	}
	w.at(last, 1, 2)
	if _, err := w.e.Poll("tv", api.GrantDevice, m.Code); err != api.ErrGrant {
		t.Errorf("Poll: %d", err)
	}
}

// P14.7: Expires is cut off at the last second.
func TestPollExpires(t *testing.T) {
	for _, c := range []struct{ now, expires uint64 }{{0, 3600}, {last - 3601, last - 1}, {last - 3600, last}, {last - 3599, last}, {last - 1, last}} {
		w := begun(t, 9)
		w.at(c.now)
		m := w.ask(till())
		w.settle(m, true)
		if i := w.poll(m, api.OK); i.Issued != c.now || i.Expires != c.expires {
			t.Errorf("%d: %v", c.now, i)
		}
	}
}

// P14.7: the store's error in each Poll that writes: the row stays, and no token is told.
func TestPollOnADeadDisk(t *testing.T) {
	for n := 1; n <= 2; n++ {
		for _, state := range []string{"first", "soon", "token"} {
			w := begun(t, 9)
			m := w.ask(box())
			if state == "soon" {
				w.poll(m, api.ErrWait)
			}
			if state == "token" {
				w.settle(m, true)
			}
			rows := w.e.All()
			w.d.Arm(n)
			w.poll(m, api.ErrDead)
			w.poll(m, api.ErrBroken)
			if !slices.Equal(w.e.All(), rows) {
				t.Errorf("%s: %v", state, w.e.All())
			}
			if before := w.again(api.Crash{}); !slices.Equal(before.e.All(), rows) {
				t.Errorf("%s: %v", state, before.e.All())
			}
			if behind := w.again(all()); slices.Equal(behind.e.All(), rows) != (n == 1) {
				t.Errorf("%s: %v", state, behind.e.All())
			}
		}
	}
}
