package wheel_test

import (
	"slices"
	"testing"

	"wicket/wheel"
)

// scribble turns every number of a list, spare room too.
func scribble(ids []uint64) {
	ids = ids[:cap(ids)]
	for i := range ids {
		ids[i] = ^ids[i]
	}
}

// crowded is a wheel at 0 with some timers in one slot of each ring, and of the far list.
func crowded(t *testing.T) *wheel.Wheel {
	t.Helper()
	w := wheel.New(0)
	for id := range uint64(50) {
		at := []uint64{5, 70, 5000, 300000, 1 << 30}[id%5]
		if id >= 25 {
			at += id % 3
		}
		w.Add(id, at)
	}
	return w
}

// stops are times that leave, each, timers in the slots that were gone into.
var stops = []uint64{5, 6, 7, 69, 70, 71, 5000, 5001, 300000, 300001, 1 << 30, 1<<30 + 1, last}

// Rule 3 (a wheel is given numbers alone, so no argument can be changed or kept): what Advance answers is new memory: whoever writes into it, or behind it, changes no wheel.
func TestAnswersAreNewMemory(t *testing.T) {
	w, spoilt := crowded(t), crowded(t)
	for _, to := range stops {
		want, ids := advanced(t, w, to), advanced(t, spoilt, to)
		if !slices.Equal(ids, want) {
			t.Fatalf("Advance(%d): %v, not %v", to, ids, want)
		}
		scribble(ids)
		_ = append(ids[:0], make([]uint64, 20)...)
		if lookOf(spoilt) != lookOf(w) {
			t.Fatalf("behind %d: %s, not %s", to, lookOf(spoilt), lookOf(w))
		}
	}
}

// Rule 3: no two answers share memory, and no later call writes into an answer.
func TestAnswersShareNothing(t *testing.T) {
	w := crowded(t)
	var answers, were [][]uint64
	for i, to := range stops {
		w.Add(1000+uint64(i), to+1)
		ids := advanced(t, w, to)
		whole := ids[:cap(ids)]
		answers, were = append(answers, whole), append(were, slices.Clone(whole))
	}
	for i := range answers {
		for j := range answers {
			if j >= i && !slices.Equal(answers[j], were[j]) {
				t.Fatalf("answer %d is %v, not %v", j, answers[j], were[j])
			}
		}
		scribble(answers[i])
	}
}

// Rule 3: a Spread is the caller's own.
func TestSpreadIsNew(t *testing.T) {
	w := crowded(t)
	s := w.Spread()
	clear(s[:])
	spreads(t, w, 10, 10, 10, 10, 10)
}
