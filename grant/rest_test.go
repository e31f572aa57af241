package grant_test

import (
	"slices"
	"testing"

	"wicket/api"
	"wicket/grant"
)

// P14.10: Compact is the store's: the state has all rows, and no record is left.
func TestCompact(t *testing.T) {
	w, want := settled(t)
	rows := kept(t, w.d)
	for range 2 {
		ops := w.d.Count()
		if err := w.e.Compact(); err != api.OK || w.d.Count() != ops+7 {
			t.Fatalf("Compact: %d, %d operations", err, w.d.Count()-ops)
		}
		state, records := lies(t, w.d)
		if !same(state, rows) || len(records) > 0 || !slices.Equal(w.e.All(), want) || w.e.Now() != 60 {
			t.Fatalf("there lies\n%v\nnot\n%v", state, rows)
		}
	}
	w.d.Arm(1)
	if err := w.e.Compact(); err != api.ErrDead {
		t.Errorf("Compact: %d", err)
	}
	if err := w.e.Compact(); err != api.ErrBroken || !slices.Equal(w.e.All(), want) {
		t.Errorf("Compact: %d", err)
	}
}

// P14.10: the rows that are forgotten are not told, though they lie there till they are dropped; no call but Ask drops them.
func TestAll(t *testing.T) {
	w := begun(t, 9)
	w.ask(lasting(tv(), 1))
	m := w.ask(till())
	w.settle(w.ask(lasting(till(), 3)), false)
	w.e.Tick(601)
	rows := kept(t, w.d).Pending
	w.silent("All", func() {
		if !slices.Equal(w.e.All(), rows[1:]) || len(rows) != 3 {
			t.Errorf("%v of %v", w.e.All(), rows)
		}
	})
	w.e.Tick(603)
	w.poll(m, api.ErrOver)
	if err := w.e.Compact(); err != api.OK {
		t.Fatal(err)
	}
	w = w.again(api.Crash{})
	if !slices.Equal(w.e.All(), rows[1:2]) || len(kept(t, w.d).Pending) != 3 {
		t.Errorf("%v", w.e.All())
	}
}

// P14.1, P14.10: a log of many records is compacted on the way, and nothing is seen of it.
func TestManyRecords(t *testing.T) {
	w := begun(t, 9)
	m := w.ask(lasting(tv(), 3600))
	for now := range uint64(300) {
		w.at(now * 5)
		w.poll(m, api.ErrWait)
	}
	if _, records := lies(t, w.d); len(records) > 64 {
		t.Errorf("%d records", len(records))
	}
	want := w.e.All()
	if w = w.again(api.Crash{}); !slices.Equal(w.e.All(), want) || w.e.Now() != 1495 {
		t.Errorf("%v", w.e.All())
	}
}

// P14.11: a nil Engine.
func TestNil(t *testing.T) {
	var e *grant.Engine
	for _, now := range []uint64{0, 7, last} {
		if l, err := e.Tick(now); err != api.OK || len(l) > 0 {
			t.Errorf("Tick: %v, %d", l, err)
		}
	}
	if e.Now() != 0 || len(e.Waiting("ann")) > 0 || len(e.Waiting("")) > 0 || len(e.Pings()) > 0 || len(e.All()) > 0 || e.Compact() != api.OK {
		t.Error("a nil Engine has something")
	}
	for _, a := range []api.Ask{tv(), till(), {}} {
		s := sourceOf(deviceDraws(1))
		if m, err := e.Ask(a, s); err != api.OK || m != (api.Made{}) || s.Left() != 40 {
			t.Errorf("Ask: %v, %d", m, err)
		}
		if m, err := e.Ask(a, nil); err != api.OK || m != (api.Made{}) {
			t.Errorf("Ask: %v, %d", m, err)
		}
	}
	for _, who := range []string{"", "ann"} {
		for range 7 {
			if s, err := e.Look(who, "BBBBBBBB"); err != api.OK || s != (api.Seen{}) {
				t.Errorf("Look: %v, %d", s, err)
			}
			if err := e.Decide(who, api.Decision{Typed: "B"}); err != api.OK {
				t.Errorf("Decide: %d", err)
			}
		}
		if err := e.Decide(who, api.Decision{Number: 1}); err != api.OK {
			t.Errorf("Decide: %d", err)
		}
	}
	for grantNumber := range 4 {
		if i, err := e.Poll("tv", grantNumber, "x"); err != api.OK || i != (api.Issued{}) {
			t.Errorf("Poll: %v, %d", i, err)
		}
	}
	for outcome := range 4 {
		if err := e.Pinged(1, outcome); err != api.OK {
			t.Errorf("Pinged: %d", err)
		}
	}
}

// Rule 4: an engine beside others knows nothing of them.
func TestEnginesAreApart(t *testing.T) {
	one, other := begun(t, 2), begun(t, 3)
	m := one.ask(tv())
	one.at(50)
	for range 5 {
		one.look("ann", "", api.ErrGuess)
	}
	if other.e.Now() != 0 || len(other.e.All()) > 0 {
		t.Error("the other has something")
	}
	other.look("ann", m.User, api.ErrGuess)
	if n := other.ask(tv()); n.Number != 1 || n.Code != m.Code {
		t.Errorf("%v", n)
	}
	other.look("ann", m.User, api.OK)
	one.look("ann", m.User, api.ErrSpent)
	one.rows(1)
}

// tight is an engine on a disk of that room, with a request of box and one of tv; none, if they have no room.
func tight(t *testing.T, room int) (w *world, told, typed api.Made) {
	t.Helper()
	w = on(t, diskOf(t, room), 9)
	told, err := w.e.Ask(box(), sourceOf(authDraws(1)))
	if err == api.OK {
		typed, err = w.e.Ask(tv(), sourceOf(deviceDraws(2)))
	}
	if err != api.OK {
		return nil, told, typed
	}
	return w, told, typed
}

// P14.2, P14.3, P14.6, P14.7, P14.9: a disk without room: each call that would write says so, and nothing has come of it; it is OK where there is room.
func TestFullDisk(t *testing.T) {
	for what, do := range map[string]func(w *world, told, typed api.Made) api.Errno{
		"Tick": func(w *world, told, typed api.Made) api.Errno {
			l, err := w.e.Tick(last)
			if err != api.OK && len(l) > 0 {
				t.Errorf("Tick: %v, %d", l, err)
			}
			return err
		},
		"Ask": func(w *world, told, typed api.Made) api.Errno {
			m, err := w.e.Ask(till(), sourceOf(authDraws(3)))
			if err != api.OK && m != (api.Made{}) {
				t.Errorf("Ask: %v, %d", m, err)
			}
			return err
		},
		"Poll": func(w *world, told, typed api.Made) api.Errno {
			_, err := w.e.Poll("tv", api.GrantDevice, typed.Code)
			return err
		},
		"Decide": func(w *world, told, typed api.Made) api.Errno {
			return w.e.Decide("ann", api.Decision{Typed: typed.User, Yes: true})
		},
		"Decide, with a ping": func(w *world, told, typed api.Made) api.Errno {
			return w.e.Decide("ann", api.Decision{Number: told.Number, Message: "7"})
		},
	} {
		full, done := 0, 0
		for room := 300; room < 1500; room++ {
			w, told, typed := tight(t, room)
			if w == nil {
				continue
			}
			rows, now := w.e.All(), w.e.Now()
			if do(w, told, typed) != api.ErrFull {
				done++
				continue
			}
			full++
			if !slices.Equal(w.e.All(), rows) || w.e.Now() != now {
				t.Fatalf("%s: %v", what, w.e.All())
			}
			if again := w.again(all()); !slices.Equal(again.e.All(), rows) || again.e.Now() != now {
				t.Fatalf("%s: %v", what, again.e.All())
			}
			w.look("eve", typed.User, api.OK)
		}
		if full == 0 || done == 0 {
			t.Errorf("%s: %d are full, %d are not", what, full, done)
		}
	}
}
