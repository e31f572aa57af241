package wheel_test

import (
	"slices"
	"testing"

	"wicket/api"
	"wicket/wheel"
)

// P7.1: a new wheel has its time and no timers, whatever the time is.
func TestNew(t *testing.T) {
	for _, now := range []uint64{0, 1, 63, 64, 1 << 24, 1<<63 + 5, last - 1, last} {
		w := wheel.New(now)
		if w == nil {
			t.Fatalf("New(%d) is nil", now)
		}
		isEmpty(t, w, now)
		if at, there := w.At(0); at != 0 || there {
			t.Errorf("At(0): %d, %v", at, there)
		}
		is(t, "Remove", w.Remove(0), api.ErrNone)
		tells(t, w, now)
	}
}

// P7.1: two wheels have nothing in common.
func TestWheelsAreTheirOwn(t *testing.T) {
	a, b := made(t, 5, pair{1, 10}), made(t, 5)
	isEmpty(t, b, 5)
	tells(t, a, 20, 1)
	isEmpty(t, b, 5)
	is(t, "Add", b.Add(1, 6), api.OK)
	isEmpty(t, a, 20)
}

// Example 1.
func TestFirstExample(t *testing.T) {
	w := made(t, 100, pair{7, 105}, pair{3, 105}, pair{9, 101})
	nextIs(t, w, 101)
	tells(t, w, 105, 9, 3, 7)
	stays(t, w, "Add(7, 105)", api.ErrGone, func() api.Errno { return w.Add(7, 105) })
	stays(t, w, "Advance(104)", api.ErrGone, func() api.Errno { return goneBack(t, w, 104) })
}

// goneBack is Advance's error, of an answer that has no ids.
func goneBack(t *testing.T, w *wheel.Wheel, to uint64) api.Errno {
	t.Helper()
	ids, e := w.Advance(to)
	if len(ids) != 0 {
		t.Errorf("Advance(%d): %v", to, ids)
	}
	return e
}

// Example 4, P7.2.
func TestAddAndRemove(t *testing.T) {
	w := made(t, 0, pair{1, 5})
	stays(t, w, "Add(1, 9)", api.ErrThere, func() api.Errno { return w.Add(1, 9) })
	stays(t, w, "Add(1, 5)", api.ErrThere, func() api.Errno { return w.Add(1, 5) })
	stays(t, w, "Remove(2)", api.ErrNone, func() api.Errno { return w.Remove(2) })
	stays(t, w, "Add(2, 0)", api.ErrGone, func() api.Errno { return w.Add(2, 0) })
	is(t, "Remove(1)", w.Remove(1), api.OK)
	isEmpty(t, w, 0)
	stays(t, w, "Remove(1) again", api.ErrNone, func() api.Errno { return w.Remove(1) })
	is(t, "Add(1, 9)", w.Add(1, 9), api.OK)
	if at, there := w.At(1); at != 9 || !there {
		t.Errorf("At(1): %d, %v", at, there)
	}
	tells(t, w, 8)
	tells(t, w, 9, 1)
	if at, there := w.At(1); at != 0 || there {
		t.Errorf("At(1) behind its time: %d, %v", at, there)
	}
	is(t, "Remove(1) behind its time", w.Remove(1), api.ErrNone)
	is(t, "Add(1, 10) behind its time", w.Add(1, 10), api.OK)
}

// P7.2: at every time, now itself is gone, and one above it is to come.
func TestWhatIsToCome(t *testing.T) {
	for _, now := range []uint64{1, 63, 64, 65, 4095, 4096, 262143, 1<<24 - 1, 1 << 24, 1<<32 - 1, 1 << 63, last - 1} {
		w := wheel.New(now)
		for _, at := range []uint64{0, now / 2, now - 1, now} {
			stays(t, w, "Add of what is gone", api.ErrGone, func() api.Errno { return w.Add(at, at) })
		}
		is(t, "Add of the next second", w.Add(0, now+1), api.OK)
		nextIs(t, w, now+1)
		tells(t, w, now)
		tells(t, w, now+1, 0)
	}
}

// P7.2: which error comes first, where several apply.
func TestErrorsInOrder(t *testing.T) {
	w := filled(t, 100)
	tells(t, w, 0)
	for id := range uint64(api.MaxTimers) {
		is(t, "Add: there, gone and full", w.Add(id, 0), api.ErrThere)
	}
	stays(t, w, "Add: there and full", api.ErrThere, func() api.Errno { return w.Add(7, 7) })
	stays(t, w, "Add: gone and full", api.ErrGone, func() api.Errno { return w.Add(api.MaxTimers, 0) })
	stays(t, w, "Add: full", api.ErrFull, func() api.Errno { return w.Add(api.MaxTimers, 1) })
	one := made(t, 5, pair{1, 6})
	stays(t, one, "Add: there and gone", api.ErrThere, func() api.Errno { return one.Add(1, 5) })
}

// P7.2: how a full wheel gets room.
func TestFull(t *testing.T) {
	for _, cut := range []uint64{1, 7, 64, 5000, api.MaxTimers} {
		w := filled(t, cut)
		if w.Len() != api.MaxTimers {
			t.Fatalf("Len: %d", w.Len())
		}
		is(t, "Add to a full wheel", w.Add(last, last), api.ErrFull)
		is(t, "Remove", w.Remove(5), api.OK)
		is(t, "Add behind Remove", w.Add(last, last), api.OK)
		is(t, "Add to a full wheel again", w.Add(5, last), api.ErrFull)
		ids, e := w.Advance(1)
		if e != api.OK || len(ids) == 0 || w.Len() != api.MaxTimers-len(ids) {
			t.Fatalf("Advance(1): %d ids, %d", len(ids), e)
		}
		for i := range ids {
			is(t, "Add behind Advance", w.Add(last-1-uint64(i), 1<<40), api.OK)
		}
		is(t, "Add to a full wheel at last", w.Add(5, last), api.ErrFull)
	}
}

// P7.2, P7.4: a full wheel tells all its timers, and lets go each one.
func TestFullWheelTells(t *testing.T) {
	w := filled(t, api.MaxTimers)
	list := pairsOf(w)
	for id, p := range list {
		if p != (pair{uint64(id), uint64(id) + 1}) {
			t.Fatalf("Each: %v at %d", p, id)
		}
	}
	spreads(t, w, 63, 4032, 4097, 0, 0)
	tells(t, w, 8191, seconds(0, 8191)...)
	tells(t, w, 8192, 8191)
	isEmpty(t, w, 8192)
	w = filled(t, 1)
	spreads(t, w, api.MaxTimers, 0, 0, 0, 0)
	tells(t, w, 1, seconds(0, api.MaxTimers)...)
	isEmpty(t, w, 1)
	w = filled(t, 1)
	for id := range uint64(api.MaxTimers) {
		is(t, "Remove", w.Remove(id*5%api.MaxTimers), api.OK)
	}
	isEmpty(t, w, 0)
}

// seconds are the numbers from low up to high.
func seconds(low, high uint64) []uint64 {
	var list []uint64
	for n := low; n < high; n++ {
		list = append(list, n)
	}
	return list
}

// P7.2: every number may be an id, and 0 is one like others.
func TestIds(t *testing.T) {
	ids := []uint64{0, 1, 63, 64, 1 << 32, 1 << 63, last - 1, last}
	w := wheel.New(10)
	for i, id := range ids {
		is(t, "Add", w.Add(id, 20+uint64(i)), api.OK)
	}
	for i, id := range ids {
		if at, there := w.At(id); at != 20+uint64(i) || !there {
			t.Errorf("At(%d): %d, %v", id, at, there)
		}
		is(t, "Add again", w.Add(id, 99), api.ErrThere)
	}
	is(t, "Remove(0)", w.Remove(0), api.OK)
	tells(t, w, 100, ids[1:]...)
}

// P7.3: what is due, and what is not yet, at times in all rings and far.
func TestAdvance(t *testing.T) {
	w := made(t, 0, pair{1, 5}, pair{2, 64}, pair{3, 5000}, pair{4, 300000}, pair{5, 1 << 25}, pair{6, 1 << 50}, pair{7, last})
	tells(t, w, 0)
	tells(t, w, 4)
	tells(t, w, 4)
	tells(t, w, 5, 1)
	tells(t, w, 5)
	tells(t, w, 63)
	tells(t, w, 4999, 2)
	tells(t, w, 5000, 3)
	tells(t, w, 1<<25-1, 4)
	tells(t, w, 1<<50-1, 5)
	tells(t, w, last-1, 6)
	tells(t, w, last, 7)
	tells(t, w, last)
	isEmpty(t, w, last)
}

// P7.3: by the time at which they were due, those of one time by rising id, from whichever rings they come.
func TestAdvanceOrder(t *testing.T) {
	w := made(t, 60, pair{9, 70}, pair{8, 61}, pair{7, 1 << 30}, pair{6, 70}, pair{5, 63}, pair{4, 4100}, pair{3, 1 << 30}, pair{2, 4099}, pair{1, 1 << 40}, pair{0, 262200}, pair{10, 70}, pair{11, 61})
	tells(t, w, last, 8, 11, 5, 6, 9, 10, 2, 4, 0, 3, 7, 1)
	w = made(t, 0, pair{last, 9}, pair{1 << 63, 9}, pair{0, 9}, pair{1, 9}, pair{1<<63 - 1, 9})
	tells(t, w, 9, 0, 1, 1<<63-1, 1<<63, last)
	w = made(t, 0, pair{1, last}, pair{2, 1 << 63}, pair{3, 1<<63 - 1}, pair{4, 1}, pair{5, 1 << 63})
	tells(t, w, last, 4, 3, 2, 5, 1)
}

// P7.3: below now nothing has changed.
func TestAdvanceBack(t *testing.T) {
	for _, now := range []uint64{1, 64, 1 << 24, last} {
		w := made(t, now-1, pair{1, now})
		tells(t, w, now, 1)
		for _, to := range []uint64{0, now / 2, now - 1} {
			stays(t, w, "Advance back", api.ErrGone, func() api.Errno { return goneBack(t, w, to) })
		}
	}
	w := made(t, 100, pair{1, 101}, pair{2, 200}, pair{3, last})
	stays(t, w, "Advance(99)", api.ErrGone, func() api.Errno { return goneBack(t, w, 99) })
	stays(t, w, "Advance(0)", api.ErrGone, func() api.Errno { return goneBack(t, w, 0) })
	stays(t, w, "Advance(100)", api.OK, func() api.Errno { return goneBack(t, w, 100) })
	tells(t, w, 200, 1, 2)
}

// Example 3: the end of time.
func TestTheLastSecond(t *testing.T) {
	w := made(t, last-1, pair{1, last})
	spreads(t, w, 1, 0, 0, 0, 0)
	nextIs(t, w, last)
	tells(t, w, last, 1)
	stays(t, w, "Add(1, last)", api.ErrGone, func() api.Errno { return w.Add(1, last) })
	stays(t, w, "Add(1, 0)", api.ErrGone, func() api.Errno { return w.Add(1, 0) })
	stays(t, w, "Advance(last - 1)", api.ErrGone, func() api.Errno { return goneBack(t, w, last-1) })
	isEmpty(t, w, last)
	w = made(t, 0, pair{1, last}, pair{2, last - 1}, pair{3, last})
	nextIs(t, w, last-1)
	tells(t, w, last, 2, 1, 3)
}

// P7.4: the least time, whichever ring it lies in.
func TestNext(t *testing.T) {
	times := []uint64{last, 1 << 60, 1<<24 + 7, 1 << 24, 300001, 300000, 4161, 4160, 4096, 130, 129, 64, 63, 2, 1}
	w := wheel.New(0)
	for i, at := range times {
		is(t, "Add", w.Add(uint64(i), at), api.OK)
		nextIs(t, w, at)
	}
	for i := len(times) - 1; i > 0; i-- {
		if i%2 == 0 {
			is(t, "Remove", w.Remove(uint64(i)), api.OK)
		} else {
			tells(t, w, times[i], uint64(i))
		}
		nextIs(t, w, times[i-1])
	}
	tells(t, w, last, 0)
	isEmpty(t, w, last)
}

// P7.6, example 4.
func TestLater(t *testing.T) {
	for _, c := range [][3]uint64{
		{0, 0, 0}, {3, 4, 7}, {0, last, last}, {last, 0, last}, {last, 1, last}, {1, last, last}, {last, last, last},
		{last - 1, 1, last}, {last - 1, 2, last}, {1, last - 1, last}, {1 << 63, 1 << 63, last}, {1 << 63, 1<<63 - 1, last},
		{1<<63 - 1, 1<<63 - 1, last - 1}, {1 << 32, 1 << 32, 1 << 33}, {last - 5, 3, last - 2}, {1<<63 + 9, 1<<63 + 9, last},
	} {
		if sum := wheel.Later(c[0], c[1]); sum != c[2] {
			t.Errorf("Later(%d, %d): %d, not %d", c[0], c[1], sum, c[2])
		}
	}
	if uint64(api.Forever) != last {
		t.Errorf("Forever: %d", uint64(api.Forever))
	}
}

// P7.7.
func TestNilWheel(t *testing.T) {
	var w *wheel.Wheel
	for _, n := range []uint64{0, 1, last} {
		is(t, "Add", w.Add(n, n), api.OK)
		is(t, "Add again", w.Add(n, n), api.OK)
		if at, there := w.At(n); at != 0 || there {
			t.Errorf("At(%d): %d, %v", n, at, there)
		}
		if ids, e := w.Advance(n); len(ids) != 0 || e != api.OK {
			t.Errorf("Advance(%d): %v, %d", n, ids, e)
		}
		is(t, "Remove", w.Remove(n), api.OK)
		isEmpty(t, w, 0)
	}
	is(t, "Advance back", goneBack(t, w, 0), api.OK)
}

// The chapter's head: the numbers.
func TestNumbers(t *testing.T) {
	got := []int{api.WheelLevels, api.WheelSlots, api.MaxTimers, int(api.ErrGone), int(api.ErrFull), int(api.ErrNone), int(api.ErrThere), len(wheel.New(0).Spread())}
	if !slices.Equal(got, []int{4, 64, 8192, 70, 5, 7, 8, 5}) {
		t.Errorf("%v", got)
	}
}
