package limit_test

import (
	"fmt"
	"math/rand"
	"testing"

	"wicket/api"
	"wicket/limit"
)

// attempt is a Try.
type attempt struct {
	subject string
	now     uint64
}

// drawnAttempts are Trys near each other in time, with some that come late.
func drawnAttempts(r *rand.Rand, p *plan, n int) []attempt {
	var list []attempt
	for range n {
		list = append(list, attempt{people[r.Intn(5)], p.drawnTime(r)})
	}
	return list
}

// tried is a limit of that plan behind these attempts.
func tried(t *testing.T, p plan, list []attempt) *limit.Limit {
	t.Helper()
	l := made(t, p.tries, p.window, p.subjects)
	for _, a := range list {
		l.Try(a.subject, a.now)
	}
	return l
}

// P8.6: in a stretch of window seconds that begins with an attempt that opened a window, no more than tries are OK.
func TestNoMoreThanTries(t *testing.T) {
	most := 0
	for seed := range int64(400) {
		r := rand.New(rand.NewSource(seed))
		p := drawnPlan(r)
		l := made(t, p.tries, p.window, p.subjects)
		var clock uint64
		fine := map[string][]uint64{} // by subject, when it was OK
		opened := map[string][]int{}  // by subject, which of those opened a window
		for _, a := range drawnAttempts(r, &p, 200) {
			clock = max(clock, a.now)
			left, e := l.Try(a.subject, a.now)
			if e != api.OK {
				continue
			}
			if left == p.tries-1 {
				opened[a.subject] = append(opened[a.subject], len(fine[a.subject]))
			}
			fine[a.subject] = append(fine[a.subject], clock)
		}
		for subject, times := range fine {
			if len(opened[subject]) == 0 || opened[subject][0] != 0 {
				t.Fatalf("seed %d: the first attempt of %q opened no window", seed, subject)
			}
			for _, first := range opened[subject] {
				n := 0
				for _, at := range times[first:] {
					if at-times[first] < p.window {
						n++
					}
				}
				if n > p.tries {
					t.Fatalf("seed %d: %d attempts of %q from %d on, in a window of %d", seed, n, subject, times[first], p.window)
				}
				most = max(most, n)
			}
		}
	}
	if most != 4 {
		t.Errorf("at most %d attempts in a window", most)
	}
}

// P8.6: behind the Wait that an error told a Try is OK, and a second earlier it is not; where that is beyond the last second, it never is.
func TestWaitIsTrue(t *testing.T) {
	seen := map[api.Errno]int{}
	beyond := 0
	for seed := range int64(400) {
		r := rand.New(rand.NewSource(seed))
		p := drawnPlan(r)
		drawn := p
		list := drawnAttempts(r, &drawn, 20)
		l := made(t, p.tries, p.window, p.subjects)
		var clock uint64
		for i, a := range list {
			clock = max(clock, a.now)
			_, e := l.Try(a.subject, a.now)
			wait := l.Wait(a.subject, a.now)
			if e == api.OK {
				continue
			}
			if wait == 0 {
				t.Fatalf("seed %d: %v: %d, and no wait", seed, a, e)
			}
			seen[e]++
			due := clock + wait
			if due < clock {
				beyond++
				refused(t, tried(t, p, list[:i+1]), a.subject, last)
				continue
			}
			if _, e := tried(t, p, list[:i+1]).Try(a.subject, due); e != api.OK {
				t.Fatalf("seed %d: %v behind %d: %d", seed, a, wait, e)
			}
			refused(t, tried(t, p, list[:i+1]), a.subject, due-1)
		}
	}
	if seen[api.ErrSpent] < 100 || seen[api.ErrFull] < 100 || beyond < 100 || seen[api.ErrLong] > 0 {
		t.Errorf("seen too little: %v, %d", seen, beyond)
	}
}

func refused(t *testing.T, l *limit.Limit, subject string, now uint64) {
	t.Helper()
	if left, e := l.Try(subject, now); left != 0 || e == api.OK {
		t.Fatalf("Try(%q, %d): %d, %d", subject, now, left, e)
	}
}

// P8.6: as long as there is room, subjects do not stand in each other's way.
func TestSubjectsAreApart(t *testing.T) {
	for seed := range int64(300) {
		r := rand.New(rand.NewSource(seed))
		p := drawnPlan(r)
		p.subjects = 5
		all := made(t, p.tries, p.window, p.subjects)
		alone := map[string]*limit.Limit{}
		for _, subject := range people[:5] {
			alone[subject] = made(t, p.tries, p.window, 1)
		}
		for range 100 {
			subject, now := people[r.Intn(5)], p.drawnTime(r)
			now = max(now, p.now) // one clock for all of them
			p.now = now
			one := alone[subject]
			if r.Intn(10) == 0 {
				all.Sweep(now)
				one.Sweep(now)
				forgives(t, all, subject, one.Forgive(subject))
			}
			if a, b := all.Left(subject, now), one.Left(subject, now); a != b {
				t.Fatalf("seed %d: Left(%q, %d): %d, alone %d", seed, subject, now, a, b)
			}
			left, e := all.Try(subject, now)
			if n, f := one.Try(subject, now); n != left || f != e {
				t.Fatalf("seed %d: Try(%q, %d): %d, %d, alone %d, %d", seed, subject, now, left, e, n, f)
			}
			if a, b := all.Wait(subject, now), one.Wait(subject, now); a != b {
				t.Fatalf("seed %d: Wait(%q, %d): %d, alone %d", seed, subject, now, a, b)
			}
		}
	}
}

// P8.6: windows that are over have no part: a limit in which all are over answers as a new one that was told the time.
func TestWhatIsOverHasNoPart(t *testing.T) {
	for seed := range int64(300) {
		r := rand.New(rand.NewSource(seed))
		p := drawnPlan(r)
		p.now, p.window = uint64(r.Intn(1000)), 1+uint64(r.Intn(12))
		used := made(t, p.tries, p.window, p.subjects)
		var clock uint64
		for range r.Intn(200) {
			clock += uint64(r.Intn(3))
			used.Try(people[r.Intn(len(people))], clock)
		}
		p.now = max(p.now, clock+p.window)
		fresh := made(t, p.tries, p.window, p.subjects)
		if r.Intn(2) == 0 {
			sweeps(t, used, p.now, 0)
		}
		sweeps(t, fresh, p.now, 0)
		tries(t, fresh, "z", p.now, p.tries-1, api.OK)
		tries(t, used, "z", p.now, p.tries-1, api.OK)
		same(t, r, p, used, fresh)
	}
}

// same: two limits of that plan answer the same from now on.
func same(t *testing.T, r *rand.Rand, p plan, a, b limits) {
	t.Helper()
	q := p
	for range 60 {
		draw := r.Int63()
		said := drawnCall(rand.New(rand.NewSource(draw)), &p, a)
		want := drawnCall(rand.New(rand.NewSource(draw)), &q, b)
		if said != want || look(a, people, 0, p.now) != look(b, people, 0, p.now) {
			t.Fatalf("%v: %s, not %s\n%s\nnot\n%s", p, said, want, look(a, people, 0, p.now), look(b, people, 0, p.now))
		}
	}
}

// P8.6: what a limit answers hangs on the calls since New or Clear alone.
func TestClearedIsNew(t *testing.T) {
	for seed := range int64(300) {
		r := rand.New(rand.NewSource(seed))
		p := drawnPlan(r)
		used, before := made(t, p.tries, p.window, p.subjects), p
		for range r.Intn(60) {
			drawnCall(r, &before, used)
		}
		used.Clear()
		same(t, r, p, used, made(t, p.tries, p.window, p.subjects))
	}
}

// P8.6: many more subjects than there is room for, one behind the other.
func TestManyPassBy(t *testing.T) {
	l := made(t, 2, 3, 4)
	for i := range uint64(200000) {
		name := fmt.Sprint(i)
		if left, e := l.Try(name, i); left != 1 || e != api.OK {
			t.Fatalf("Try(%s): %d, %d", name, left, e)
		}
	}
	knows(t, l, "199997", "199998", "199999")
}

// Rule 4: the same calls have the same answers, over and over, in a limit with many subjects.
func TestSameAgain(t *testing.T) {
	names := numbered(700)
	run := func() string {
		l := made(t, 2, 50, 600)
		var s string
		for i, name := range names {
			left, e := l.Try(name, uint64(i/10))
			s += fmt.Sprint(left, e, " ")
			if i%50 == 0 {
				s += fmt.Sprint(l.Subjects(), l.Wait("other", 0), l.Left("other", 60), l.Sweep(0), l.Forgive(names[i*3%700]))
			}
		}
		return s + fmt.Sprint(l.Sweep(80), l.Subjects())
	}
	want := run()
	for range 5 {
		if run() != want {
			t.Fatal("the same calls have other answers")
		}
	}
}
