package wheel_test

import (
	"fmt"
	"slices"
	"testing"

	"wicket/api"
	"wicket/wheel"
)

const last = 1<<64 - 1

// pair is a timer.
type pair struct{ id, at uint64 }

// wheels is what a wheel and the slow one have in common.
type wheels interface {
	Add(id uint64, at uint64) api.Errno
	Remove(id uint64) api.Errno
	At(id uint64) (uint64, bool)
	Advance(to uint64) ([]uint64, api.Errno)
	Next() (uint64, bool)
	Now() uint64
	Len() int
	Spread() [5]int
	pairs() []pair
}

// plain is a wheel with the timers of Each as a list.
type plain struct{ *wheel.Wheel }

func (p plain) pairs() []pair { return pairsOf(p.Wheel) }

func pairsOf(w *wheel.Wheel) []pair {
	var list []pair
	for id, at := range w.Each() {
		list = append(list, pair{id, at})
	}
	return list
}

// made is a wheel at that time with those timers, added in their order.
func made(t *testing.T, now uint64, timers ...pair) *wheel.Wheel {
	t.Helper()
	w := wheel.New(now)
	for _, p := range timers {
		if e := w.Add(p.id, p.at); e != api.OK {
			t.Fatalf("Add(%d, %d) at %d: %d", p.id, p.at, now, e)
		}
	}
	return w
}

// filled is a wheel at 0 with as many timers as there may be, of the ids from 0 on, due at 1 + id % cut.
func filled(t *testing.T, cut uint64) *wheel.Wheel {
	t.Helper()
	w := wheel.New(0)
	for id := range uint64(api.MaxTimers) {
		if e := w.Add(id, 1+id%cut); e != api.OK {
			t.Fatalf("timer %d: %d", id, e)
		}
	}
	return w
}

// look is all that can be seen of a wheel, without a change.
func look(w wheels) string {
	next, some := w.Next()
	var times []pair
	for _, p := range w.pairs() {
		if at, there := w.At(p.id); there {
			times = append(times, pair{p.id, at})
		}
	}
	return fmt.Sprint(w.Now(), w.Len(), next, some, w.Spread(), w.pairs(), times)
}

func lookOf(w *wheel.Wheel) string { return look(plain{w}) }

// is: the call of that name has that answer.
func is(t *testing.T, call string, e, want api.Errno) {
	t.Helper()
	if e != want {
		t.Errorf("%s: %d, not %d", call, e, want)
	}
}

// stays: the call answers that error, and nothing has changed.
func stays(t *testing.T, w *wheel.Wheel, what string, want api.Errno, call func() api.Errno) {
	t.Helper()
	was := lookOf(w)
	is(t, what, call(), want)
	if s := lookOf(w); s != was {
		t.Errorf("%s has changed\n%s\nto\n%s", what, was, s)
	}
}

// tells: Advance answers these ids, and the time is that one.
func tells(t *testing.T, w *wheel.Wheel, to uint64, want ...uint64) {
	t.Helper()
	ids, e := w.Advance(to)
	if e != api.OK || !slices.Equal(ids, want) || w.Now() != to {
		t.Errorf("Advance(%d): %v, %d at %d, not %v", to, ids, e, w.Now(), want)
	}
}

func spreads(t *testing.T, w *wheel.Wheel, want ...int) {
	t.Helper()
	if s := w.Spread(); !slices.Equal(s[:], want) {
		t.Errorf("Spread: %v, not %v", s, want)
	}
}

func nextIs(t *testing.T, w *wheel.Wheel, want uint64) {
	t.Helper()
	if at, some := w.Next(); at != want || !some {
		t.Errorf("Next: %d, %v, not %d", at, some, want)
	}
}

func isEmpty(t *testing.T, w *wheel.Wheel, now uint64) {
	t.Helper()
	next, some := w.Next()
	if w.Now() != now || w.Len() != 0 || next != 0 || some || w.Spread() != [5]int{} || len(pairsOf(w)) != 0 {
		t.Errorf("not empty at %d: %s", now, lookOf(w))
	}
}
