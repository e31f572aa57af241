package wheel_test

import (
	"fmt"
	"math/rand"
	"slices"
	"testing"

	"wicket/api"
	"wicket/wheel"
)

// drawnTimers are timers of different ids that are to come at that time.
func drawnTimers(r *rand.Rand, now uint64, most int) []pair {
	var list []pair
	for id := range uint64(r.Intn(most + 1)) {
		if at := drawnTime(r, now); at > now {
			list = append(list, pair{id * 7 % 31, at})
		}
	}
	return list
}

// advanced is what Advance answers of a time that is not gone.
func advanced(t *testing.T, w *wheel.Wheel, to uint64) []uint64 {
	t.Helper()
	ids, e := w.Advance(to)
	if e != api.OK {
		t.Fatalf("Advance(%d) at %d: %d", to, w.Now(), e)
	}
	return ids
}

// between draws a time from low to high.
func between(r *rand.Rand, low, high uint64) uint64 {
	switch r.Intn(8) {
	case 0:
		return low
	case 1:
		return high
	}
	return min(high, wheel.Later(low, drawnSpan(r)))
}

// P7.8: two steps are one.
func TestTimeIsCutInTwo(t *testing.T) {
	r := rand.New(rand.NewSource(71))
	for range 20000 {
		now := drawnStart(r)
		timers := drawnTimers(r, now, 30)
		b := wheel.Later(now, drawnSpan(r))
		a := between(r, now, b)
		whole, cut := made(t, now, timers...), made(t, now, timers...)
		want := advanced(t, whole, b)
		first := advanced(t, cut, a)
		if got := slices.Concat(first, advanced(t, cut, b)); !slices.Equal(got, want) || lookOf(cut) != lookOf(whole) {
			t.Fatalf("%d to %d, cut at %d, with %v: %v, not %v", now, b, a, timers, got, want)
		}
	}
}

// P7.8: and so are many, of which each may be a single second.
func TestTimeIsCutSmall(t *testing.T) {
	r := rand.New(rand.NewSource(72))
	for _, now := range []uint64{0, 50, 4000, 262000, 1<<24 - 1000, 1<<36 - 700, last - 5000} {
		var timers []pair
		for id := range uint64(300) {
			timers = append(timers, pair{id, now + 1 + uint64(r.Intn(4999))})
		}
		whole, cut := made(t, now, timers...), made(t, now, timers...)
		b := now + 4990
		var got []uint64
		for at := now; at <= b; at++ {
			got = append(got, advanced(t, cut, at)...)
		}
		if want := advanced(t, whole, b); !slices.Equal(got, want) || lookOf(cut) != lookOf(whole) {
			t.Errorf("from %d: %v, not %v", now, got, want)
		}
	}
}

// P7.8: from one timer to the next.
func TestFromNextToNext(t *testing.T) {
	r := rand.New(rand.NewSource(73))
	for range 2000 {
		now := drawnStart(r)
		timers := drawnTimers(r, now, 30)
		whole, cut := made(t, now, timers...), made(t, now, timers...)
		var got []uint64
		for {
			next, some := cut.Next()
			if !some {
				break
			}
			if early := advanced(t, cut, next-1); len(early) != 0 {
				t.Fatalf("at %d: %v", next-1, early)
			}
			told := advanced(t, cut, next)
			if len(told) == 0 {
				t.Fatalf("at %d: none", next)
			}
			got = append(got, told...)
		}
		if want := advanced(t, whole, last); !slices.Equal(got, want) || len(want) != len(timers) {
			t.Fatalf("%v: %v, not %v", timers, got, want)
		}
	}
}

// fate is what became of a timer: whether it waits, and when it was due.
type fate struct {
	at      uint64
	waiting bool
}

// P7.9: each timer is told by the first Advance whose time is not below its own, or taken out, or still there.
func TestToldOnce(t *testing.T) {
	for seed := range int64(500) {
		r := rand.New(rand.NewSource(seed))
		w := wheel.New(drawnStart(r))
		var fates []fate // by id: none is used twice
		for range 200 {
			switch r.Intn(5) {
			case 0:
				to := wheel.Later(w.Now(), drawnSpan(r))
				for _, id := range advanced(t, w, to) {
					if !fates[id].waiting || fates[id].at > to {
						t.Fatalf("seed %d: %d is told at %d: %v", seed, id, to, fates[id])
					}
					fates[id].waiting = false
				}
				for id, f := range fates {
					if f.waiting && f.at <= to {
						t.Fatalf("seed %d: %d is not told at %d: %v", seed, id, to, f)
					}
				}
			case 1:
				if len(fates) > 0 {
					id := r.Intn(len(fates))
					want := map[bool]api.Errno{true: api.OK, false: api.ErrNone}[fates[id].waiting]
					is(t, "Remove", w.Remove(uint64(id)), want)
					fates[id].waiting = false
				}
			default:
				if at := drawnTime(r, w.Now()); w.Add(uint64(len(fates)), at) == api.OK {
					fates = append(fates, fate{at, true})
				}
			}
			allWait(t, w, fates)
		}
	}
}

// allWait: the wheel has just the timers that wait.
func allWait(t *testing.T, w *wheel.Wheel, fates []fate) {
	t.Helper()
	var want []pair
	for id, f := range fates {
		if f.waiting {
			want = append(want, pair{uint64(id), f.at})
		}
	}
	if list := pairsOf(w); !slices.Equal(list, want) || w.Len() != len(want) {
		t.Fatalf("%v, not %v", list, want)
	}
}

// P7.10: in whatever order timers were added, and whatever else was there and was taken out, the answers are the same.
func TestOrderHasNoPart(t *testing.T) {
	r := rand.New(rand.NewSource(75))
	for range 1500 {
		now := drawnStart(r)
		timers := drawnTimers(r, now, 31)
		w := made(t, now, timers...)
		r.Shuffle(len(timers), func(i, j int) { timers[i], timers[j] = timers[j], timers[i] })
		other := wheel.New(now)
		for _, p := range timers {
			passing(t, r, other, timers)
			is(t, "Add", other.Add(p.id, p.at), api.OK)
			passing(t, r, other, timers)
		}
		for range 6 {
			if lookOf(w) != lookOf(other) {
				t.Fatalf("%s\n%s", lookOf(w), lookOf(other))
			}
			to := between(r, w.Now(), wheel.Later(w.Now(), drawnSpan(r)))
			if a, b := advanced(t, w, to), advanced(t, other, to); !slices.Equal(a, b) {
				t.Fatalf("Advance(%d): %v and %v", to, a, b)
			}
		}
	}
}

// passing adds a few timers, some of ids and some at times that others have, and takes them out again; and takes out some that are there, and adds them again.
func passing(t *testing.T, r *rand.Rand, w *wheel.Wheel, timers []pair) {
	t.Helper()
	var guests []uint64
	for range r.Intn(4) {
		id, at := uint64(r.Intn(200)), timers[r.Intn(len(timers))].at
		if w.Add(id, at) == api.OK {
			guests = append(guests, id)
		}
	}
	for _, p := range pairsOf(w) {
		if r.Intn(8) == 0 {
			is(t, "Remove", w.Remove(p.id), api.OK)
			is(t, "Add", w.Add(p.id, p.at), api.OK)
		}
	}
	for _, id := range guests {
		is(t, "Remove", w.Remove(id), api.OK)
	}
}

// P7.10, rule 4: with many timers in one slot, and the same calls over and over.
func TestSameAgain(t *testing.T) {
	run := func() string {
		w := filled(t, 3000)
		for id := range uint64(1000) {
			w.Remove(id * 8)
		}
		s := lookOf(w)
		for _, to := range []uint64{1, 63, 64, 2000, 2999, 3000} {
			ids, e := w.Advance(to)
			s += fmt.Sprint(ids, e, w.Spread())
		}
		return s
	}
	want := run()
	for range 5 {
		if run() != want {
			t.Fatal("the same calls have other answers")
		}
	}
}
