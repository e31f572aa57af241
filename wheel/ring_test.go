package wheel_test

import (
	"testing"

	"wicket/api"
	"wicket/wheel"
)

// Examples 2 and 3, P7.5.
func TestSpread(t *testing.T) {
	w := made(t, 0, pair{1, 63}, pair{2, 64}, pair{3, 4096}, pair{4, 262144}, pair{5, 16777216})
	spreads(t, w, 1, 1, 1, 1, 1)
	tells(t, w, 64, 1, 2)
	spreads(t, w, 0, 0, 1, 1, 1)
	w = made(t, 63, pair{1, 64})
	spreads(t, w, 0, 1, 0, 0, 0)
}

// P7.5: a timer lies by the highest digit that differs, not by how far it is.
func TestRings(t *testing.T) {
	for _, c := range []struct {
		now, at uint64
		ring    int
	}{
		{0, 1, 0}, {0, 63, 0}, {0, 64, 1}, {0, 4095, 1}, {0, 4096, 2}, {0, 262143, 2}, {0, 262144, 3}, {0, 1<<24 - 1, 3}, {0, 1 << 24, 4}, {0, 1 << 30, 4}, {0, last, 4},
		{1, 64, 1}, {64, 65, 0}, {64, 127, 0}, {64, 128, 1}, {65, 128, 1}, {127, 128, 1},
		{4095, 4096, 2}, {262143, 262144, 3}, {1<<24 - 1, 1 << 24, 4}, {1<<30 - 1, 1 << 30, 4}, {1<<60 - 1, 1 << 60, 4}, {1<<63 - 1, 1 << 63, 4},
		{1 << 24, 1<<24 + 1, 0}, {1 << 24, 1<<24 + 64, 1}, {1 << 24, 1<<24 + 4096, 2}, {1 << 24, 1<<24 + 262144, 3}, {1 << 24, 1 << 25, 4},
		{1 << 60, 1<<60 + 63, 0}, {1 << 60, 1 << 61, 4}, {15 << 60, last, 4}, {last - 63, last, 0}, {last - 64, last, 1}, {last - 4096, last, 2}, {last - 262144, last, 3}, {last - 1<<24, last, 4},
		{70, 70 + 64*3, 1}, {70, 1<<24 + 70, 4}, {1<<24 + 70, 1<<24 + 4096 + 70, 2}, {1<<30 - 1<<24 + 5, 1<<30 - 1<<24 + 6, 0},
	} {
		var want [5]int
		want[c.ring] = 1
		w := made(t, c.now, pair{1, c.at})
		if s := w.Spread(); s != want {
			t.Errorf("%d at %d: %v, not %v", c.at, c.now, s, want)
		}
		if r := slowRing(c.at, c.now); r != c.ring {
			t.Errorf("%d at %d, slowly: %d, not %d", c.at, c.now, r, c.ring)
		}
		is(t, "Remove", w.Remove(1), api.OK)
		isEmpty(t, w, c.now)
	}
}

// P7.5: as the time comes nearer, a timer goes down from ring to ring.
func TestComingNearer(t *testing.T) {
	const at = 3<<30 | 5<<24 | 7<<18 | 9<<12 | 11<<6 | 13
	w := made(t, 0, pair{1, at})
	for _, c := range []struct {
		now  uint64
		ring int
	}{
		{3<<30 - 1, 4}, {3 << 30, 4}, {3<<30 | 5<<24 - 1, 4}, {3<<30 | 5<<24, 3}, {3<<30 | 5<<24 | 6<<18 | 63<<12, 3}, {3<<30 | 5<<24 | 7<<18, 2}, {3<<30 | 5<<24 | 7<<18 | 8<<12, 2},
		{3<<30 | 5<<24 | 7<<18 | 9<<12, 1}, {3<<30 | 5<<24 | 7<<18 | 9<<12 | 10<<6 | 63, 1}, {at - 13, 0}, {at - 1, 0},
	} {
		tells(t, w, c.now)
		var want [5]int
		want[c.ring] = 1
		if s := w.Spread(); s != want {
			t.Errorf("at %d: %v, not %v", c.now, s, want)
		}
		nextIs(t, w, at)
	}
	tells(t, w, at, 1)
	isEmpty(t, w, at)
}

// P7.5: Remove finds a timer wherever it has come to.
func TestRemoveFromEveryRing(t *testing.T) {
	for _, now := range []uint64{0, 5, 1 << 12, 1 << 18, 1 << 24, 1<<24 + 1<<18 + 1<<12} {
		w := wheel.New(0)
		var count int
		for i := range uint64(60) {
			at := uint64(1)<<i | 1<<(i/2)
			is(t, "Add", w.Add(i, at), api.OK)
			is(t, "Add", w.Add(100+i, at), api.OK)
		}
		ids, _ := w.Advance(now)
		count = 120 - len(ids)
		for _, p := range pairsOf(w) {
			before := w.Spread()
			is(t, "Remove", w.Remove(p.id), api.OK)
			count--
			before[slowRing(p.at, now)]--
			if w.Spread() != before || w.Len() != count {
				t.Errorf("Remove(%d): %v, not %v", p.id, w.Spread(), before)
			}
		}
		isEmpty(t, w, now)
	}
}
