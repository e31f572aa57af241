package wheel_test

import (
	"slices"
	"testing"

	"wicket/api"
	"wicket/wheel"
)

func few(t *testing.T) (*wheel.Wheel, []pair) {
	t.Helper()
	w := made(t, 0, pair{9, 5}, pair{1, 1 << 40}, pair{last, 5}, pair{4, 70}, pair{0, 9})
	return w, []pair{{0, 9}, {1, 1 << 40}, {4, 70}, {9, 5}, {last, 5}}
}

// P7.4: by rising id, all of them.
func TestEach(t *testing.T) {
	w, want := few(t)
	if list := pairsOf(w); !slices.Equal(list, want) {
		t.Errorf("Each: %v, not %v", list, want)
	}
	tells(t, w, 9, 9, last, 0)
	if list := pairsOf(w); !slices.Equal(list, want[1:3]) {
		t.Errorf("Each: %v, not %v", list, want[1:3])
	}
}

// P7.4: it may be left at any time, and gone over again.
func TestEachIsLeft(t *testing.T) {
	w, want := few(t)
	each := w.Each()
	for n := range len(want) + 1 {
		var list []pair
		for id, at := range each {
			if len(list) == n {
				break
			}
			list = append(list, pair{id, at})
		}
		if !slices.Equal(list, want[:n]) {
			t.Errorf("Each, left behind %d: %v", n, list)
		}
	}
	calls := 0
	each(func(uint64, uint64) bool { calls++; return false })
	if calls != 1 {
		t.Errorf("called %d times", calls)
	}
}

// P7.4: nested, of one Each and of two.
func TestEachIsNested(t *testing.T) {
	w, want := few(t)
	each := w.Each()
	var outer []pair
	for id, at := range each {
		outer = append(outer, pair{id, at})
		var inner []pair
		for id, at := range each {
			inner = append(inner, pair{id, at})
			if len(inner) == len(outer) {
				break
			}
		}
		if !slices.Equal(inner, want[:len(outer)]) || !slices.Equal(pairsOf(w), want) {
			t.Errorf("inner: %v", inner)
		}
	}
	if !slices.Equal(outer, want) {
		t.Errorf("outer: %v", outer)
	}
}

// P7.4: as the wheel was when Each was called, whatever is done ahead of going over it.
func TestEachIsKept(t *testing.T) {
	w, want := few(t)
	each := w.Each()
	nothing := made(t, 0).Each()
	is(t, "Remove", w.Remove(4), api.OK)
	is(t, "Add", w.Add(5, 3), api.OK)
	tells(t, w, 5, 5, 9, last)
	for range 2 {
		var list []pair
		for id, at := range each {
			list = append(list, pair{id, at})
		}
		if !slices.Equal(list, want) {
			t.Errorf("Each: %v, not %v", list, want)
		}
	}
	for id := range nothing {
		t.Errorf("Each of none: %d", id)
	}
}

// P7.4: and whatever is done while it is gone over.
func TestChangesWithinEach(t *testing.T) {
	w, want := few(t)
	var list []pair
	for id, at := range w.Each() {
		list = append(list, pair{id, at})
		is(t, "Remove", w.Remove(id), api.OK)
		is(t, "Add", w.Add(id+10, at+1), api.OK)
	}
	if !slices.Equal(list, want) {
		t.Errorf("Each: %v, not %v", list, want)
	}
	if list := pairsOf(w); !slices.Equal(list, []pair{{9, 6}, {10, 10}, {11, 1<<40 + 1}, {14, 71}, {19, 6}}) {
		t.Errorf("Each behind it: %v", list)
	}
	for range w.Each() {
		if _, e := w.Advance(last); e != api.OK {
			t.Errorf("Advance: %d", e)
		}
	}
	isEmpty(t, w, last)
}
