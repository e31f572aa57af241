package grant_test

import (
	"slices"
	"strconv"
	"strings"
	"testing"

	"wicket/api"
)

// P14.4: what was typed, however it was.
func TestLookAtWhatWasTyped(t *testing.T) {
	w := begun(t, 3)
	a := tv()
	a.Message = "say \x00\xff"
	m := w.ask(a)
	code := strings.ReplaceAll(m.User, "-", "")
	want := api.Seen{Number: 1, Client: "tv", Scope: "read", Message: "say \x00\xff"}
	for i, typed := range []string{code, m.User, strings.ToLower(code), " " + code + "_/.-", strings.Join(strings.Split(code, ""), " "), code + strings.Repeat(" ", 56)} {
		w.silent("a look", func() {
			if s := w.look("ann"+strconv.Itoa(i), typed, api.OK); s != want {
				t.Errorf("%q: %v", typed, s)
			}
		})
	}
	for i, typed := range []string{"", "x", code[:7], code + "B", code + strings.Repeat(" ", 57), "ABCDEFGH", code[:7] + "Z", m.Code, "BBBBBBBB", code[:7] + "\x00"} {
		w.silent("a look", func() { w.look("bob"+strconv.Itoa(i), typed, api.ErrGuess) })
	}
}

// P14.4: only what is waiting is told.
func TestLookAtWhatWaits(t *testing.T) {
	w := begun(t, 9)
	waiting, approved, denied, taken := w.ask(tv()), w.ask(tv()), w.ask(tv()), w.ask(tv())
	w.decide("a", api.Decision{Typed: approved.User, Yes: true}, api.OK)
	w.decide("a", api.Decision{Typed: denied.User}, api.OK)
	w.decide("a", api.Decision{Typed: taken.User, Yes: true}, api.OK)
	w.poll(taken, api.OK)
	w.poll(waiting, api.ErrWait)
	check := func(who string, want api.Errno) {
		t.Helper()
		w.look(who, waiting.User, want)
		w.look(who, approved.User, api.ErrGuess)
		w.look(who, denied.User, api.ErrGuess)
		w.look(who, taken.User, api.ErrGuess)
	}
	check("b", api.OK)
	w.at(599)
	check("c", api.OK)
	w.at(600, 1, 2)
	check("d", api.ErrGuess)
	w.at(1200)
	check("e", api.ErrGuess)
}

// P14.4: names; ErrArg takes no attempt, and is told ahead of ErrSpent.
func TestLookNames(t *testing.T) {
	w := begun(t, 3)
	m := w.ask(tv())
	long := strings.Repeat("n", 65)
	for range 7 {
		w.look("", m.User, api.ErrArg)
		w.look(long, m.User, api.ErrArg)
		w.look(strings.Repeat("n", 300), "", api.ErrArg)
		w.decide("", api.Decision{Typed: m.User, Yes: true}, api.ErrArg)
		w.decide(long, api.Decision{Typed: m.User, Yes: true}, api.ErrArg)
		w.decide("", api.Decision{}, api.ErrArg)
	}
	for _, name := range []string{"n", strings.Repeat("n", 64), "\x00", " ", "é"} {
		w.look(name, m.User, api.OK)
	}
}

// P14.4, P14.15: GuessTries attempts and one more, whatever comes of them; the window's end.
func TestLookAttempts(t *testing.T) {
	w := begun(t, 3)
	m := w.ask(tv())
	for i, begin := range []uint64{100, 160, 225} {
		w.at(begin)
		w.look("ann", m.User, api.OK)
		w.look("ann", "", api.ErrGuess)
		w.decide("ann", api.Decision{Typed: m.User, Message: "no", Yes: true}, api.ErrOther)
		w.at(begin + 30)
		w.look("ann", strings.Repeat("B", 999), api.ErrGuess)
		w.decide("ann", api.Decision{Typed: "B"}, api.ErrGuess)
		for _, now := range []uint64{begin + 30, begin + 59} {
			w.at(now)
			w.silent("a look too many", func() {
				w.look("ann", m.User, api.ErrSpent)
				w.look("ann", "", api.ErrSpent)
				w.decide("ann", api.Decision{Typed: m.User, Yes: true}, api.ErrSpent)
				w.decide("ann", api.Decision{Typed: "B", Yes: true}, api.ErrSpent)
			})
			w.look("bob"+strconv.Itoa(i), m.User, api.OK)
		}
	}
	w.at(285)
	w.decide("ann", api.Decision{Typed: m.User, Yes: true}, api.OK)
}

// P14.4: decisions on a number, and what is Waiting, take no attempt.
func TestNumbersTakeNoAttempt(t *testing.T) {
	w := begun(t, 3)
	m := w.ask(till())
	for range 9 {
		w.decide("ann", api.Decision{Number: 7}, api.ErrNone)
		w.decide("ann", api.Decision{Number: m.Number, Message: "41"}, api.ErrOther)
		w.e.Waiting("ann")
	}
	for range 5 {
		w.look("ann", "", api.ErrGuess)
	}
	w.decide("ann", api.Decision{Number: m.Number, Message: "42", Yes: true}, api.OK)
}

// P14.4: there is room for MaxSubjects subjects; beyond it, every error of the Limit is ErrSpent.
func TestLookSubjects(t *testing.T) {
	w := begun(t, 3)
	m := w.ask(tv())
	for i := range api.MaxSubjects {
		w.look("s"+strconv.Itoa(i), m.User, api.OK)
	}
	w.look("one more", m.User, api.ErrSpent)
	w.decide("one more", api.Decision{Typed: m.User, Yes: true}, api.ErrSpent)
	w.look("s7", m.User, api.OK)
	w.at(59)
	w.look("one more", m.User, api.ErrSpent)
	w.at(60)
	w.look("one more", m.User, api.OK)
}

// P14.5: of the flows that are asked of somebody, those that wait for that one.
func TestWaiting(t *testing.T) {
	w := begun(t, 99)
	for range 2 {
		w.ask(tv())
		w.ask(till())
		a := box()
		a.Subject = "bob"
		w.ask(a)
		w.ask(lasting(box(), 3600))
	}
	waits := func(who string, numbers ...uint64) {
		t.Helper()
		w.silent("Waiting", func() {
			var want []api.Seen
			for _, n := range numbers {
				p := w.row(n)
				want = append(want, api.Seen{Number: n, Client: p.Client, Scope: p.Scope, Message: p.Message})
			}
			if got := w.e.Waiting(who); !slices.Equal(got, want) {
				t.Fatalf("Waiting(%q): %v, not %v", who, got, want)
			}
		})
	}
	waits("ann", 2, 4, 6, 8)
	waits("bob", 3, 7)
	for _, who := range []string{"", "an", "anna", "eve", strings.Repeat("n", 65), strings.Repeat("n", 999)} {
		waits(who)
	}
	w.decide("ann", api.Decision{Number: 2, Message: "42", Yes: true}, api.OK)
	w.decide("ann", api.Decision{Number: 8, Message: "7"}, api.OK)
	w.decide("ann", api.Decision{Typed: w.e.All()[0].Code, Yes: true}, api.OK)
	waits("ann", 4, 6)
	w.at(119)
	waits("ann", 4, 6)
	w.at(120, 2, 3, 6, 7)
	waits("ann", 4)
	waits("bob")
	w.at(3599, 1, 5)
	waits("ann", 4)
	w.at(3600, 4)
	waits("ann")
}

// P14.6: what a decision makes of a row, of each flow, by yes and by no: one record.
func TestDecideMakesOneRecord(t *testing.T) {
	for flow, a := range map[int]api.Ask{1: tv(), 2: till(), 3: box()} {
		for _, yes := range []bool{true, false} {
			w := begun(t, 3)
			w.at(70)
			m := w.ask(a)
			w.poll(m, api.ErrWait)
			w.poll(m, api.ErrSlow)
			w.at(75)
			d := api.Decision{Number: m.Number, Message: a.Message, Yes: yes}
			who := "ann"
			if flow == 1 {
				d = api.Decision{Typed: m.User, Number: 99, Yes: yes}
				who = "bob"
			}
			want := w.row(m.Number)
			want.Status = 3
			if yes {
				want.Status, want.Subject = 2, who
			}
			if flow == 3 {
				want.Ping, want.Due = 1, 75
			}
			w.writes("a decision", []api.Change{alter(want)}, func() { w.decide(who, d, api.OK) })
			if p := w.row(m.Number); p != want {
				t.Errorf("%v, not %v", p, want)
			}
		}
	}
}

// P14.6: what there is no such request for.
func TestDecideNone(t *testing.T) {
	w := begun(t, 9)
	m := w.ask(tv())
	w.ask(till())
	w.ask(lasting(box(), 1))
	w.settle(m, true) // its Subject is ann now
	for _, d := range []api.Decision{
		{Number: 0, Message: "42", Yes: true}, {Number: 4}, {Number: last, Yes: true}, {Number: 1, Yes: true}, {Number: 1, Message: "x"}, {},
	} {
		w.silent("no request", func() { w.decide("ann", d, api.ErrNone) })
	}
	for _, who := range []string{"bob", "an", "anna", "Ann", strings.Repeat("n", 64)} {
		for n := range uint64(5) {
			w.decide(who, api.Decision{Number: n, Message: "42", Yes: true}, api.ErrNone)
		}
	}
	w.at(600, 3, 2, 1)
	w.decide("bob", api.Decision{Number: 2}, api.ErrNone)
	w.decide("ann", api.Decision{Number: 1}, api.ErrNone)
	w.decide("ann", api.Decision{Number: 3}, api.ErrOver)
	w.at(601)
	w.decide("ann", api.Decision{Number: 3}, api.ErrNone)
}

// P14.6: over, at its Expiry and a second ahead of it; decided, whatever was decided and is said now; another message comes last.
func TestDecideOrder(t *testing.T) {
	w := begun(t, 9)
	waiting, approved, denied, taken := w.ask(box()), w.ask(box()), w.ask(box()), w.ask(till())
	w.settle(approved, true)
	w.settle(denied, false)
	w.settle(taken, true)
	w.poll(taken, api.OK)
	tries := func(m api.Made, want api.Errno) {
		t.Helper()
		for _, message := range []string{"7", "42", "", "other"} {
			for _, yes := range []bool{true, false} {
				w.silent("a decision", func() {
					w.decide("ann", api.Decision{Number: m.Number, Message: message, Yes: yes}, want)
				})
			}
		}
	}
	w.at(119)
	tries(approved, api.ErrDecided)
	tries(denied, api.ErrDecided)
	tries(taken, api.ErrDecided)
	w.at(120, 1, 2)
	tries(waiting, api.ErrOver)
	tries(approved, api.ErrOver)
	tries(denied, api.ErrDecided)
	tries(taken, api.ErrDecided)
	w.at(719)
	tries(waiting, api.ErrOver)
	tries(denied, api.ErrDecided)
	w.at(720)
	for _, m := range []api.Made{waiting, approved, denied, taken} {
		tries(m, api.ErrNone)
	}
}

// P14.6: the message that is shown must be the one that is decided on.
func TestDecideOther(t *testing.T) {
	w := begun(t, 9)
	a := tv()
	a.Message = "pay\x00"
	device := w.ask(a)
	tillMade := w.ask(till())
	for i, message := range []string{"", "pay", "pay\x00\x00", "PAY\x00", "42 ", "4", strings.Repeat("4", 1000)} {
		who := "s" + strconv.Itoa(i)
		for _, yes := range []bool{true, false} {
			w.silent("another message", func() {
				w.decide(who, api.Decision{Typed: device.User, Message: message, Yes: yes}, api.ErrOther)
				w.decide("ann", api.Decision{Number: tillMade.Number, Message: message, Yes: yes}, api.ErrOther)
			})
		}
	}
	w.at(119)
	w.decide("ann", api.Decision{Number: tillMade.Number, Message: "42", Yes: true}, api.OK)
	w.decide("eve", api.Decision{Typed: device.User, Message: "pay\x00", Yes: true}, api.OK)
}

// P14.6: where something was typed, the number is not looked at, and nothing else is decided.
func TestDecideTyped(t *testing.T) {
	w := begun(t, 9)
	m := w.ask(tv())
	w.ask(till())
	w.silent("typed wrongly", func() {
		w.decide("ann", api.Decision{Typed: "no", Number: 2, Message: "42", Yes: true}, api.ErrGuess)
		w.decide("ann", api.Decision{Typed: " ", Number: 2, Message: "42", Yes: true}, api.ErrGuess)
	})
	w.decide("ann", api.Decision{Typed: strings.ToLower(m.User), Number: 2, Yes: true}, api.OK)
	if p, q := w.row(1), w.row(2); p.Status != 2 || p.Subject != "ann" || q.Status != 1 {
		t.Errorf("%v, %v", p, q)
	}
	w.decide("ann", api.Decision{Typed: m.User}, api.ErrGuess)
}

// P14.6: a name that no row can have: who says yes is told so by the store, who says no is not kept.
func TestDecideByAName(t *testing.T) {
	w := begun(t, 9)
	m := w.ask(tv())
	for _, name := range []string{"a\x00", "é", "\x7f"} {
		w.silent("a name", func() { w.decide(name, api.Decision{Typed: m.User, Yes: true}, api.ErrPending) })
	}
	w.decide("é", api.Decision{Typed: m.User}, api.OK)
	if p := w.row(1); p.Status != 3 || p.Subject != "" {
		t.Errorf("%v", p)
	}
	long := strings.Repeat("~", 64)
	w.decide(long, api.Decision{Typed: w.ask(tv()).User, Yes: true}, api.OK)
	if p := w.row(2); p.Subject != long {
		t.Errorf("%v", p)
	}
}

// P14.6, P14.15: the store's error: the row stays, the attempt is used.
func TestDecideOnADeadDisk(t *testing.T) {
	for n := 1; n <= 2; n++ {
		w := begun(t, 9)
		m := w.ask(tv())
		w.ask(box())
		rows := w.e.All()
		w.d.Arm(n)
		w.decide("ann", api.Decision{Number: 2, Message: "7", Yes: true}, api.ErrDead)
		for range 5 {
			w.decide("ann", api.Decision{Typed: m.User, Yes: true}, api.ErrBroken)
		}
		w.decide("ann", api.Decision{Typed: m.User, Yes: true}, api.ErrSpent)
		w.decide("ann", api.Decision{Number: 2, Message: "6", Yes: true}, api.ErrOther)
		if !slices.Equal(w.e.All(), rows) {
			t.Errorf("%v", w.e.All())
		}
		w.pings()
		w.again(api.Crash{}).decide("ann", api.Decision{Number: 2, Message: "7"}, api.OK)
		want := api.OK
		if n == 2 {
			want = api.ErrDecided
		}
		w.again(all()).decide("ann", api.Decision{Number: 2, Message: "7"}, want)
	}
}
