package grant_test

import (
	"math"
	"math/rand"
	"slices"
	"testing"

	"wicket/api"
)

// leavings are the ways in which a power failure takes what was not synced, as far as they can be told in a story.
func leavings() []api.Crash {
	list := []api.Crash{all(), {}}
	for tail := range 260 {
		list = append(list, tailed(9, tail))
	}
	for dir := range 5 {
		list = append(list, tailed(dir, 0), tailed(dir, 30), tailed(dir, 500), tailed(dir, math.MaxInt))
	}
	return list
}

// story is calls of every kind, with Compacts between, that all have something to do.
func story() []call {
	say := func(n uint64, message string, yes bool) call {
		return call{name: "Decide", subject: "ann", decision: api.Decision{Number: n, Message: message, Yes: yes}}
	}
	device, first, second, third := base64url(deviceDraws(1)[:32]), base64url(authDraws(2)), base64url(authDraws(3)), base64url(authDraws(4))
	polls := func(client string, grant int, code string) call {
		return call{name: "Poll", client: client, grant: grant, code: code}
	}
	return []call{
		{name: "Tick", now: 100},
		{name: "Ask", ask: tv(), draws: deviceDraws(1)},
		{name: "Ask", ask: till(), draws: authDraws(2)},
		polls("tv", 1, device),
		polls("tv", 1, device),
		{name: "Decide", subject: "bob", decision: api.Decision{Typed: "CBBB-BBBB", Yes: true}},
		{name: "Ask", ask: box(), draws: authDraws(3)},
		{name: "Compact"},
		{name: "Tick", now: 110},
		polls("tv", 1, device),
		say(2, "42", true),
		polls("till", 2, first),
		say(3, "7", false),
		{name: "Pinged", number: 3},
		{name: "Pinged", number: 3, outcome: 1},
		polls("box", 2, second),
		{name: "Ask", ask: box(), draws: authDraws(4)},
		{name: "Tick", now: 230},
		{name: "Pinged", number: 4},
		{name: "Compact"},
		{name: "Tick", now: 820},
		{name: "Ask", ask: till(), draws: authDraws(5)},
		polls("box", 2, third),
	}
}

// told does the story till an answer is one of a dead disk.
func told(t *testing.T, n int) *life {
	t.Helper()
	l := &life{world: begun(t, 4), r: rand.New(rand.NewSource(1)), room: roomy, m: newSlow(4, api.Rows{}), faulty: true, heard: map[string]int{}}
	l.d.Arm(n)
	for _, c := range story() {
		l.step(c)
	}
	return l
}

// P14.13: the power fails at each operation of a story; whatever is left, the rows, the clock and the last number are those of what was answered, or of the one call more.
func TestNothingAnsweredIsLost(t *testing.T) {
	halves := 0
	for n := 0; ; n++ {
		l := told(t, n)
		if n > 0 && !l.d.Dead() {
			if n < 50 {
				t.Fatalf("the story has %d operations", n-1)
			}
			break
		}
		for i, c := range leavings() {
			next := l.again(c)
			rows := kept(t, next.d)
			isHalf := len(l.half) > 0 && same(rows, l.half[0])
			if !same(rows, l.m.rows) && !isHalf || len(l.half) > 1 {
				t.Fatalf("Arm(%d): there are\n%v\nbehind\n%v", n, rows, l.m.rows)
			}
			if isHalf {
				halves++
			}
			m := newSlow(4, rows)
			if !slices.Equal(next.e.All(), m.All()) || next.e.Now() != m.Now() || !slices.Equal(next.e.Pings(), m.Pings()) {
				t.Fatalf("Arm(%d): the engine has %v, not %v", n, next.e.All(), rows)
			}
			if i > 3 {
				continue
			}
			for range 5 {
				next.look("ann", "", api.ErrGuess)
			}
			next.look("ann", "", api.ErrSpent)
		}
	}
	if halves == 0 {
		t.Error("no call that was under way is ever there")
	}
}

// P14.12: a token is told once, at which operation soever the power fails, and how often soever.
func TestOneToken(t *testing.T) {
	for n := range 12 {
		for second := range 8 {
			for _, c := range []api.Crash{all(), {}, tailed(9, 40)} {
				w := begun(t, 4)
				m := w.ask(till())
				w.settle(m, true)
				tokens := 0
				polls := func() {
					for range 3 {
						i, err := w.e.Poll("till", api.GrantCiba, m.Code)
						if err == api.OK {
							tokens++
						} else if i != (api.Issued{}) {
							t.Fatalf("Poll: %v, %d", i, err)
						}
						w.e.Tick(w.e.Now() + 10)
					}
				}
				w.d.Arm(n)
				polls()
				files := w.d.Left(c)
				w = on(t, diskOf(t, roomy, files...), 4)
				w.d.Arm(second)
				polls()
				w = w.again(c)
				polls()
				if tokens > 1 || tokens == 0 && n == 0 {
					t.Fatalf("Arm(%d), Arm(%d): %d tokens", n, second, tokens)
				}
			}
		}
	}
}

// P14.12: without a decision that says yes, of the right one, on the right message, there is no token, whoever polls how often.
func TestNoTokenWithoutAYes(t *testing.T) {
	w := begun(t, 9)
	device, polled, denied := w.ask(tv()), w.ask(till()), w.ask(till())
	w.decide("eve", api.Decision{Typed: device.User, Message: "no", Yes: true}, api.ErrOther)
	w.decide("eve", api.Decision{Number: polled.Number, Message: "42", Yes: true}, api.ErrNone)
	w.decide("ann", api.Decision{Number: polled.Number, Message: "41", Yes: true}, api.ErrOther)
	w.settle(denied, false)
	w.decide("ann", api.Decision{Number: denied.Number, Message: "42", Yes: true}, api.ErrDecided)
	for now := uint64(0); now < 800; now += 7 {
		w.e.Tick(now)
		for _, m := range []api.Made{device, polled, denied} {
			for _, client := range []string{"tv", "till", "box"} {
				for grant := range 4 {
					if _, err := w.e.Poll(client, grant, m.Code); err == api.OK {
						t.Fatal("there is a token")
					}
				}
			}
		}
	}
}

// P14.14: over drawn times, each Poll of what waits is slow or not by the one ahead of it, behind power failures too.
func TestPace(t *testing.T) {
	for seed := range int64(40) {
		r := rand.New(rand.NewSource(seed))
		w := begun(t, 2)
		m := w.ask(lasting(till(), 3600))
		interval, before, polled, now := uint64(5), uint64(0), false, uint64(0)
		for now < 3000 {
			w.at(now)
			if polled && now-before < interval {
				w.poll(m, api.ErrSlow)
				interval += 5
			} else {
				w.poll(m, api.ErrWait)
			}
			polled, before = true, now
			if w.row(1).Interval != interval {
				t.Fatalf("seed %d: the interval is %d, not %d", seed, w.row(1).Interval, interval)
			}
			if r.Intn(10) == 0 {
				w = w.again(drawnCrash(r))
			}
			now += interval + uint64(r.Intn(4)) - 1
			if r.Intn(20) == 0 {
				now -= uint64(r.Intn(int(interval)))
			}
		}
	}
}

// P14.15: in a stretch of GuessWindow seconds that begins with an attempt that opened a window no more than GuessTries come to look.
func TestGuesses(t *testing.T) {
	for seed := range int64(40) {
		r := rand.New(rand.NewSource(seed))
		w := begun(t, 2)
		m := w.ask(lasting(tv(), 3600))
		var looked []uint64
		for now := uint64(0); now < 3600; now += uint64(r.Intn(30)) {
			w.e.Tick(now)
			err := api.OK
			switch r.Intn(4) {
			case 0:
				_, err = w.e.Look("ann", m.User)
			case 1:
				_, err = w.e.Look("ann", "wrong")
			case 2:
				err = w.e.Decide("ann", api.Decision{Typed: m.User, Message: "another", Yes: true})
			case 3:
				err = w.e.Decide("ann", api.Decision{Typed: "wrong", Yes: true})
			}
			spent := len(looked) == 5 && now-looked[0] < 60
			if spent != (err == api.ErrSpent) {
				t.Fatalf("seed %d: at %d, behind attempts at %v: %d", seed, now, looked, err)
			}
			if spent {
				continue
			}
			if len(looked) > 0 && now-looked[0] >= 60 {
				looked = nil
			}
			looked = append(looked, now)
		}
	}
}

// P14.16: a client that polls at its pace, ahead of the Expiry, gets its token, in whatever flow, though it was too quick before.
func TestAFairClient(t *testing.T) {
	for seed := range int64(200) {
		r := rand.New(rand.NewSource(seed))
		w := begun(t, 2)
		w.at(pick(r, 0, 1000, last-1000))
		a := lasting(pick(r, tv(), till(), box()), 600)
		m := w.ask(a)
		expiry := w.e.Now() + 600
		for range r.Intn(6) {
			w.e.Poll(a.Client, grantOf(a.Flow), m.Code)
			w.at(w.e.Now() + uint64(r.Intn(12)))
		}
		w.settle(m, true)
		for range r.Intn(3) {
			if p := w.row(1); p.Asked && w.e.Now()-p.Polled < p.Interval {
				w.poll(m, api.ErrSlow)
			}
		}
		if p := w.row(1); p.Asked {
			w.at(pick(r, max(w.e.Now(), p.Polled+p.Interval), expiry-1))
		}
		if r.Intn(3) == 0 {
			w.at(expiry - 1)
		}
		if i := w.poll(m, api.OK); i.Subject != "ann" || i.Client != a.Client || i.Scope != a.Scope {
			t.Fatalf("seed %d: %v", seed, i)
		}
	}
}

// P14.17: each request that is not denied or taken is told by just one Tick, the first that reaches its Expiry.
func TestExpiry(t *testing.T) {
	for seed := range int64(12) {
		r := rand.New(rand.NewSource(seed))
		w := begun(t, 256)
		w.at(pick(r, 5, last-2000))
		expiries := map[uint64]uint64{} // of those that are to be told
		for range 60 {
			for range r.Intn(3) {
				a := lasting(till(), uint64(1+r.Intn(100)))
				m := w.ask(a)
				switch r.Intn(4) {
				case 0:
					w.settle(m, false)
				case 1:
					w.settle(m, true)
					w.poll(m, api.OK)
				case 2:
					w.settle(m, true)
					expiries[m.Number] = w.e.Now() + a.Life
				default:
					expiries[m.Number] = w.e.Now() + a.Life
				}
			}
			now := w.e.Now() + uint64(r.Intn(25))
			var want []uint64
			for n, expiry := range expiries {
				if expiry <= now {
					want = append(want, n)
					delete(expiries, n)
				}
			}
			got, err := w.e.Tick(now)
			slices.Sort(got)
			slices.Sort(want)
			if err != api.OK || !slices.Equal(got, want) {
				t.Fatalf("seed %d: Tick(%d): %v, %d, not %v", seed, now, got, err, want)
			}
			if r.Intn(10) == 0 {
				w = w.again(drawnCrash(r))
			}
		}
	}
}

// P14.18: a ping is owed once; one that came out as done is owed no more behind a power failure at any later operation, one whose record was lost is owed still.
func TestPingsBehindPowerFailures(t *testing.T) {
	for _, over := range []bool{false, true} {
		for n := 1; n <= 6; n++ {
			w := begun(t, 4)
			m := w.ask(box())
			if !over {
				w.settle(m, true)
			}
			w.e.Tick(120)
			w.d.Arm(n)
			err := w.e.Pinged(1, api.OutcomeDone)
			w.e.Tick(121)
			w.e.Tick(122)
			for _, c := range leavings() {
				next := w.again(c)
				l := next.e.Pings()
				if err == api.OK && (len(l) > 0 || next.e.Pinged(1, api.OutcomeDone) != api.ErrNone) {
					t.Fatalf("Arm(%d): %v is owed again", n, l)
				}
				if err != api.OK && len(l) > 0 && l[0] != due(m, 0) {
					t.Fatalf("Arm(%d): %v", n, l)
				}
			}
			if err != api.OK && len(w.again(api.Crash{}).e.Pings()) != 1 {
				t.Errorf("Arm(%d): the ping is not owed", n)
			}
		}
	}
}

// P14.18: each ping is tried PingAttempts times at most, however its attempts and power failures fall.
func TestPingAttempts(t *testing.T) {
	for seed := range int64(30) {
		r := rand.New(rand.NewSource(seed))
		w := begun(t, 4)
		m := w.ask(lasting(box(), pick[uint64](r, 10, 3600)))
		if r.Intn(2) == 0 {
			w.settle(m, r.Intn(2) == 0)
		}
		attempts := 0
		for w.e.Now() < 500 {
			w.e.Tick(w.e.Now() + uint64(r.Intn(20)))
			for range w.e.Pings() {
				attempts++
				w.pinged(1, api.OutcomeFailed, api.OK)
			}
			if r.Intn(10) == 0 {
				w = w.again(drawnCrash(r))
			}
		}
		if p := w.row(1); attempts > 8 || p.Ping != 0 && attempts != 8 || p.Ping == 0 && attempts != 0 {
			t.Fatalf("seed %d: %d attempts: %v", seed, attempts, p)
		}
	}
}
