package limit_test

import (
	"fmt"
	"math"
	"slices"
	"testing"

	"wicket/api"
	"wicket/limit"
)

// P8.1: what may be asked for, up to its edges.
func TestNew(t *testing.T) {
	for _, c := range []struct {
		tries    int
		window   uint64
		subjects int
		e        api.Errno
	}{
		{1, 1, 1, api.OK}, {2, 10, 2, api.OK}, {1000000, 1, 1, api.OK}, {1, last, 1, api.OK}, {1, 1, 4096, api.OK}, {1000000, last, 4096, api.OK},
		{0, 1, 1, api.ErrArg}, {-1, 1, 1, api.ErrArg}, {math.MinInt, 1, 1, api.ErrArg}, {1000001, 1, 1, api.ErrArg}, {math.MaxInt, 1, 1, api.ErrArg},
		{1, 0, 1, api.ErrArg},
		{1, 1, 0, api.ErrArg}, {1, 1, -1, api.ErrArg}, {1, 1, math.MinInt, api.ErrArg}, {1, 1, 4097, api.ErrArg}, {1, 1, math.MaxInt, api.ErrArg},
		{0, 0, 0, api.ErrArg}, {1000001, last, 4097, api.ErrArg}, {1000000, 0, 4096, api.ErrArg},
	} {
		l, e := limit.New(c.tries, c.window, c.subjects)
		if e != c.e || (l != nil) != (e == api.OK) {
			t.Errorf("New(%d, %d, %d): %v, %d, not %d", c.tries, c.window, c.subjects, l, e, c.e)
		}
		if l == nil {
			continue
		}
		knows(t, l)
		forgives(t, l, "", false)
		leaves(t, l, "", 0, c.tries, 0)
		leaves(t, l, "a", last, c.tries, 0)
		sweeps(t, l, 0, 0)
	}
}

// P8.1: two limits have nothing in common.
func TestLimitsAreTheirOwn(t *testing.T) {
	a, b := made(t, 1, 10, 1), made(t, 1, 10, 1)
	tries(t, a, "a", 50, 0, api.OK)
	knows(t, b)
	tries(t, b, "b", 3, 0, api.OK)
	leaves(t, b, "b", 3, 0, 10)
	knows(t, a, "a")
	a.Clear()
	knows(t, b, "b")
}

// Example 1.
func TestFirstExample(t *testing.T) {
	l := example(t)
	tries(t, l, "a", 5, 1, api.OK)
	tries(t, l, "a", 6, 0, api.OK)
	tries(t, l, "a", 7, 0, api.ErrSpent)
	leaves(t, l, "a", 7, 0, 8)
	tries(t, l, "a", 14, 0, api.ErrSpent)
	tries(t, l, "a", 15, 1, api.OK)
}

// Examples 2 and 4.
func TestSecondExample(t *testing.T) {
	l := example(t)
	tries(t, l, "a", 0, 1, api.OK)
	tries(t, l, "b", 3, 1, api.OK)
	leaves(t, l, "d", 0, 0, 7)
	tries(t, l, "c", 4, 0, api.ErrFull)
	leaves(t, l, "c", 4, 0, 6)
	sweeps(t, l, 10, 1)
	tries(t, l, "c", 10, 1, api.OK)
	knows(t, l, "b", "c")
	l = example(t)
	tries(t, l, "b", 0, 1, api.OK)
	tries(t, l, "a", 0, 1, api.OK)
	knows(t, l, "a", "b")
}

// Example 3.
func TestThirdExample(t *testing.T) {
	l := example(t)
	tries(t, l, "a", 100, 1, api.OK)
	tries(t, l, "a", 50, 0, api.OK)
	leaves(t, l, "a", 0, 0, 10)
	forgives(t, l, "a", true)
	leaves(t, l, "a", 0, 2, 0)
	forgives(t, l, "a", false)
}

// Example 5: the greatest window.
func TestGreatestWindow(t *testing.T) {
	l := made(t, 2, last, 2)
	tries(t, l, "a", 0, 1, api.OK)
	tries(t, l, "a", 0, 0, api.OK)
	leaves(t, l, "a", 0, 0, last)
	tries(t, l, "b", 1, 1, api.OK)
	leaves(t, l, "c", 1, 0, last-1)
	tries(t, l, "a", last-1, 0, api.ErrSpent)
	tries(t, l, "c", last-1, 0, api.ErrFull)
	leaves(t, l, "a", last-1, 0, 1)
	leaves(t, l, "a", last, 2, 0)
	leaves(t, l, "c", last, 2, 0)
	tries(t, l, "a", last, 1, api.OK)
	leaves(t, l, "b", last, 1, 0)
	leaves(t, l, "c", last, 0, 1)
	knows(t, l, "a", "b")
}

// P8.2: the greatest time: a window that begins there is never over, and its wait is told all the same.
func TestGreatestTime(t *testing.T) {
	for _, window := range []uint64{1, 2, 10, 1 << 63, last} {
		l := made(t, 1, window, 1)
		tries(t, l, "a", last, 0, api.OK)
		tries(t, l, "a", last, 0, api.ErrSpent)
		tries(t, l, "a", 0, 0, api.ErrSpent)
		tries(t, l, "b", last, 0, api.ErrFull)
		leaves(t, l, "a", last, 0, window)
		leaves(t, l, "b", 0, 0, window)
		sweeps(t, l, last, 1)
		forgives(t, l, "a", true)
		tries(t, l, "b", 7, 0, api.OK)
	}
	l := made(t, 1, 10, 2)
	tries(t, l, "a", last-10, 0, api.OK)
	tries(t, l, "b", last-9, 0, api.OK)
	leaves(t, l, "a", last-1, 0, 1)
	leaves(t, l, "c", last-1, 0, 1)
	leaves(t, l, "b", last, 0, 1)
	sweeps(t, l, last, 1)
	knows(t, l, "b")
	tries(t, l, "a", last, 0, api.OK)
	leaves(t, l, "a", last, 0, 10)
	leaves(t, l, "c", last, 0, 1)
}

// P8.2: when a window is over, at windows and beginnings of all sizes.
func TestWindowsEdges(t *testing.T) {
	for _, window := range []uint64{1, 2, 3, 10, 1 << 32, 1 << 63} {
		for _, since := range []uint64{0, 1, 9, 1<<32 - 1, 1<<63 - 1} {
			l := made(t, 3, window, 1)
			tries(t, l, "a", since, 2, api.OK)
			leaves(t, l, "a", since+window-1, 2, 0)
			leaves(t, l, "a", since+window, 3, 0)
			leaves(t, l, "b", since+window-1, 0, 1)
			leaves(t, l, "b", since+window, 3, 0)
			tries(t, l, "a", since+window-1, 1, api.OK)
			tries(t, l, "b", since+window-1, 0, api.ErrFull)
			sweeps(t, l, since+window-1, 1)
			knows(t, l, "a")
			tries(t, l, "a", since+window, 2, api.OK)
			sweeps(t, l, since+window+window-1, 1)
			leaves(t, l, "a", 0, 2, 0)
		}
	}
}

// P8.2: a window begins with its first attempt, not with later ones.
func TestWindowsBeginning(t *testing.T) {
	l := made(t, 5, 10, 1)
	for i := range 5 {
		tries(t, l, "a", 20+2*uint64(i), 4-i, api.OK)
	}
	tries(t, l, "a", 29, 0, api.ErrSpent)
	leaves(t, l, "a", 29, 0, 1)
	tries(t, l, "a", 30, 4, api.OK)
	l = made(t, 5, 10, 1)
	tries(t, l, "a", 20, 4, api.OK)
	tries(t, l, "a", 29, 3, api.OK)
	tries(t, l, "a", 30, 4, api.OK)
	leaves(t, l, "b", 30, 0, 10)
}

// P8.2: a call with an earlier now is as one with the clock, whichever call set it.
func TestClockNeverGoesBack(t *testing.T) {
	forward := map[string]func(l *limit.Limit){
		"OK":       func(l *limit.Limit) { tries(t, l, "b", 7, 0, api.OK); forgives(t, l, "b", true) },
		"ErrSpent": func(l *limit.Limit) { tries(t, l, "a", 7, 0, api.ErrSpent) },
		"ErrFull": func(l *limit.Limit) {
			tries(t, l, "b", 5, 0, api.OK)
			tries(t, l, "c", 7, 0, api.ErrFull)
			l.Forgive("b")
		},
		"Sweep": func(l *limit.Limit) { sweeps(t, l, 7, 1) },
	}
	for what, set := range forward {
		l := made(t, 1, 10, 2)
		tries(t, l, "a", 5, 0, api.OK)
		set(l)
		for _, now := range []uint64{0, 6, 7} {
			leaves(t, l, "a", now, 0, 8)
		}
		tries(t, l, "a", 0, 0, api.ErrSpent)
		tries(t, l, "d", 1, 0, api.OK)
		leaves(t, l, "d", 2, 0, 10)
		sweeps(t, l, 3, 2)
		leaves(t, l, "a", 14, 0, 1)
		leaves(t, l, "d", 16, 0, 1)
		if t.Failed() {
			t.Fatal(what)
		}
	}
}

// P8.2: a long subject is an error, and nothing changes, the clock neither.
func TestLongSubjects(t *testing.T) {
	l := example(t)
	tries(t, l, "a", 5, 1, api.OK)
	for _, n := range []int{257, 258, 1000, 1 << 20} {
		for _, now := range []uint64{0, 5, 6, 100, last} {
			stays(t, l, "Try of a long subject", func() { tries(t, l, long(n), now, 0, api.ErrLong) })
			leaves(t, l, long(n), now, 0, 0)
			forgives(t, l, long(n), false)
		}
	}
	tries(t, l, long(256), 6, 1, api.OK)
	tries(t, l, long(256), 6, 0, api.OK)
	tries(t, l, long(256), 6, 0, api.ErrSpent)
	knows(t, l, "a", long(256))
	stays(t, l, "ErrLong ahead of ErrFull", func() { tries(t, l, long(257), 6, 0, api.ErrLong) })
	leaves(t, l, long(257), 6, 0, 0)
	leaves(t, l, long(255), 6, 0, 9)
	forgives(t, l, long(256), true)
}

// P8.2: any bytes are a subject, none too.
func TestAnyBytes(t *testing.T) {
	names := []string{"", "\x00", "\x00\x00", " ", "A", "a", "a\x00", "ab", "b", "é", "\x80", "\xff", "\xff\xff", long(256)}
	l := made(t, 2, 10, len(names))
	for i := range names {
		tries(t, l, names[len(names)-1-i], 1, 1, api.OK)
	}
	slices.Sort(names)
	knows(t, l, names...)
	for _, name := range names {
		tries(t, l, name, 1, 0, api.OK)
		tries(t, l, name, 1, 0, api.ErrSpent)
	}
	tries(t, l, "aa", 1, 0, api.ErrFull)
	forgives(t, l, "", true)
	knows(t, l, names[1:]...)
	tries(t, l, "aa", 1, 1, api.OK)
}

// P8.2: which error comes first, and what is no error in a full limit.
func TestErrorsInOrder(t *testing.T) {
	l := example(t)
	tries(t, l, "a", 0, 1, api.OK)
	tries(t, l, "a", 0, 0, api.OK)
	tries(t, l, "b", 4, 1, api.OK)
	tries(t, l, "a", 4, 0, api.ErrSpent)
	leaves(t, l, "a", 4, 0, 6)
	leaves(t, l, "c", 4, 0, 6)
	leaves(t, l, "b", 4, 1, 0)
	tries(t, l, "c", 4, 0, api.ErrFull)
	tries(t, l, "b", 4, 0, api.OK)
	tries(t, l, "b", 4, 0, api.ErrSpent)
	leaves(t, l, "b", 5, 0, 9)
	leaves(t, l, "c", 5, 0, 5)
	leaves(t, l, "a", 10, 2, 0)
	leaves(t, l, "c", 10, 2, 0)
}

// P8.2: a subject whose window is over needs room as others do.
func TestOwnWindowOver(t *testing.T) {
	l := made(t, 1, 10, 1)
	tries(t, l, "a", 0, 0, api.OK)
	tries(t, l, "b", 10, 0, api.OK)
	tries(t, l, "a", 10, 0, api.ErrFull)
	leaves(t, l, "a", 12, 0, 8)
	l = made(t, 1, 10, 1)
	tries(t, l, "a", 0, 0, api.OK)
	leaves(t, l, "a", 10, 1, 0)
	tries(t, l, "a", 10, 0, api.OK)
	leaves(t, l, "a", 10, 0, 10)
}

// P8.2: an attempt that is not OK does not count, and opens no window.
func TestErrorsDoNotCount(t *testing.T) {
	l := made(t, 1, 10, 1)
	tries(t, l, "a", 0, 0, api.OK)
	for range 20 {
		stays(t, l, "ErrSpent", func() { tries(t, l, "a", 0, 0, api.ErrSpent) })
		stays(t, l, "ErrFull", func() { tries(t, l, "b", 0, 0, api.ErrFull) })
	}
	knows(t, l, "a")
	tries(t, l, "b", 10, 0, api.OK)
	knows(t, l, "b")
}

// P8.2: the greatest number of tries.
func TestGreatestTries(t *testing.T) {
	l := made(t, api.MaxTries, 10, 1)
	for i := range api.MaxTries {
		if left, e := l.Try("a", 5); left != api.MaxTries-1-i || e != api.OK {
			t.Fatalf("attempt %d: %d, %d", i, left, e)
		}
	}
	tries(t, l, "a", 14, 0, api.ErrSpent)
	leaves(t, l, "a", 14, 0, 1)
	tries(t, l, "a", 15, api.MaxTries-1, api.OK)
	leaves(t, l, "a", 15, api.MaxTries-1, 0)
}

// numbered are so many subjects, rising.
func numbered(n int) []string {
	var list []string
	for i := range n {
		list = append(list, fmt.Sprintf("subject %06d", i))
	}
	return list
}

// P8.2: the greatest number of subjects, and how there is room again.
func TestGreatestSubjects(t *testing.T) {
	names := numbered(api.MaxSubjects + 1)
	extra := names[api.MaxSubjects]
	names = names[:api.MaxSubjects]
	l := made(t, 1, 5000, api.MaxSubjects)
	for i := range names {
		tries(t, l, names[i*5%api.MaxSubjects], uint64(i), 0, api.OK)
	}
	knows(t, l, names...)
	sweeps(t, l, 0, api.MaxSubjects)
	tries(t, l, extra, 4500, 0, api.ErrFull)
	leaves(t, l, extra, 4500, 0, 500)
	leaves(t, l, extra, 4999, 0, 1)
	leaves(t, l, extra, 5000, 1, 0)
	forgives(t, l, names[0], true)
	leaves(t, l, extra, 4500, 1, 0)
	tries(t, l, extra, 4500, 0, api.OK)
	tries(t, l, names[0], 4500, 0, api.ErrFull)
	leaves(t, l, names[0], 4500, 0, 501)
	sweeps(t, l, 5000, api.MaxSubjects)
	sweeps(t, l, 5001, api.MaxSubjects-1)
	tries(t, l, names[0], 5001, 0, api.OK)
	sweeps(t, l, 9094, 3)
	sweeps(t, l, 9095, 2)
	knows(t, l, names[0], extra)
	sweeps(t, l, 10000, 1)
	sweeps(t, l, 10001, 0)
}

// P8.3: Left and Wait change nothing, the clock neither.
func TestLookingChangesNothing(t *testing.T) {
	l := example(t)
	tries(t, l, "a", 5, 1, api.OK)
	tries(t, l, "b", 6, 1, api.OK)
	tries(t, l, "b", 6, 0, api.OK)
	for _, now := range []uint64{0, 5, 6, 7, 14, 15, 16, 100, last} {
		for _, name := range []string{"a", "b", "c", "", long(256), long(257)} {
			stays(t, l, "Left", func() { l.Left(name, now) })
			stays(t, l, "Wait", func() { l.Wait(name, now) })
		}
	}
	knows(t, l, "a", "b")
	leaves(t, l, "b", 0, 0, 10)
	tries(t, l, "a", 7, 0, api.OK)
	sweeps(t, l, 14, 2)
}

// P8.3: Left is how many attempts are OK one behind the other, and the one behind them has the error that Wait tells of.
func TestLeftIsTrue(t *testing.T) {
	for used := range 4 {
		for _, now := range []uint64{0, 8, 14, 15, 30} {
			l := made(t, 3, 10, 1)
			for range used {
				l.Try("a", 5)
			}
			for _, name := range []string{"a", "b"} {
				left, wait := l.Left(name, now), l.Wait(name, now)
				if (left == 0) != (wait > 0) {
					t.Errorf("%d left, wait %d", left, wait)
				}
				for i := range left {
					tries(t, l, name, now, left-1-i, api.OK)
				}
				if _, e := l.Try(name, now); e == api.OK {
					t.Errorf("%s at %d: one more than %d", name, now, left)
				}
			}
		}
	}
}

// P8.3: with a window that is over by then there is room, though it is open at the clock.
func TestLookingForward(t *testing.T) {
	l := made(t, 1, 10, 3)
	for i, name := range []string{"c", "a", "b"} {
		tries(t, l, name, uint64(3*i), 0, api.OK)
	}
	for now := range uint64(20) {
		at := max(now, 6)
		left, wait := 0, 10-min(at, 10)
		if at >= 10 {
			left = 1
		}
		leaves(t, l, "d", now, left, wait)
		leaves(t, l, "c", now, left, wait)
	}
	leaves(t, l, "a", 12, 0, 1)
	leaves(t, l, "b", 13, 0, 3)
	knows(t, l, "a", "b", "c")
}

// P8.4: what was forgiven is forgotten, and makes room; others are not touched.
func TestForgive(t *testing.T) {
	l := example(t)
	tries(t, l, "a", 0, 1, api.OK)
	tries(t, l, "a", 0, 0, api.OK)
	tries(t, l, "b", 2, 1, api.OK)
	stays(t, l, "Forgive of one who is not there", func() { forgives(t, l, "c", false) })
	forgives(t, l, "a", true)
	knows(t, l, "b")
	leaves(t, l, "a", 3, 2, 0)
	leaves(t, l, "b", 3, 1, 0)
	tries(t, l, "a", 4, 1, api.OK)
	tries(t, l, "a", 13, 0, api.OK)
	leaves(t, l, "a", 13, 0, 1)
	forgives(t, l, "a", true)
	forgives(t, l, "a", false)
	tries(t, l, "c", 13, 1, api.OK)
	knows(t, l, "c")
}

// P8.4: at the clock, a window that is over is none.
func TestForgiveAtTheClock(t *testing.T) {
	l := example(t)
	tries(t, l, "a", 0, 1, api.OK)
	sweeps(t, l, 9, 1)
	leaves(t, l, "a", 10, 2, 0)
	forgives(t, l, "a", true)
	tries(t, l, "a", 9, 1, api.OK)
	tries(t, l, "b", 19, 1, api.OK)
	forgives(t, l, "a", false)
	forgives(t, l, "b", true)
	tries(t, l, "b", 0, 1, api.OK)
	leaves(t, l, "b", 28, 1, 0)
	sweeps(t, l, 29, 0)
	forgives(t, l, "b", false)
}

// P8.4: Sweep and Subjects.
func TestSweep(t *testing.T) {
	l := made(t, 1, 10, 4)
	sweeps(t, l, 3, 0)
	for i, name := range []string{"d", "b", "c", "a"} {
		tries(t, l, name, uint64(i), 0, api.OK) // the first three are at 3
	}
	knows(t, l, "a", "b", "c", "d")
	sweeps(t, l, 0, 4)
	sweeps(t, l, 12, 4)
	tries(t, l, "e", 12, 0, api.ErrFull)
	knows(t, l, "a", "b", "c", "d")
	sweeps(t, l, 13, 0)
	knows(t, l)
	tries(t, l, "e", 12, 0, api.OK)
	tries(t, l, "b", 14, 0, api.OK)
	knows(t, l, "b", "e")
	sweeps(t, l, 5, 2)
	sweeps(t, l, 23, 1)
	knows(t, l, "b")
	sweeps(t, l, last, 0)
	tries(t, l, "a", 0, 0, api.OK)
	knows(t, l, "a")
	sweeps(t, l, last, 1)
}

// P8.4: behind Clear all is as New made it, the clock too.
func TestClear(t *testing.T) {
	for _, now := range []uint64{0, 5, 100, last} {
		l := example(t)
		for range 2 {
			tries(t, l, "a", now, 1, api.OK)
			tries(t, l, "a", now, 0, api.OK)
			tries(t, l, "b", now, 1, api.OK)
			tries(t, l, "c", now, 0, api.ErrFull)
			l.Clear()
			knows(t, l)
			for _, name := range []string{"a", "b", "c"} {
				leaves(t, l, name, 0, 2, 0)
				forgives(t, l, name, false)
			}
			sweeps(t, l, 0, 0)
		}
		tries(t, l, "a", 3, 1, api.OK)
		tries(t, l, "a", 3, 0, api.OK)
		leaves(t, l, "a", 0, 0, 10)
		leaves(t, l, "a", 5, 0, 8)
		l.Clear()
		l.Clear()
		tries(t, l, "a", 0, 1, api.OK)
		tries(t, l, "a", 10, 1, api.OK)
	}
}

// P8.5.
func TestNilLimit(t *testing.T) {
	var l *limit.Limit
	for _, now := range []uint64{0, 1, last} {
		for _, name := range []string{"", "a", long(256), long(257)} {
			tries(t, l, name, now, 0, api.OK)
			tries(t, l, name, now, 0, api.OK)
			leaves(t, l, name, now, 0, 0)
			forgives(t, l, name, false)
		}
		sweeps(t, l, now, 0)
		knows(t, l)
		l.Clear()
	}
}

// The chapter's head: the numbers.
func TestNumbers(t *testing.T) {
	got := []int{api.MaxTries, api.MaxSubjects, api.MaxSubject, int(api.ErrSpent), int(api.ErrArg), int(api.ErrLong), int(api.ErrFull)}
	if !slices.Equal(got, []int{1000000, 4096, 256, 80, 2, 1, 5}) {
		t.Errorf("%v", got)
	}
}
