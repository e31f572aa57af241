package grant_test

import (
	"math"
	"slices"
	"testing"

	"wicket/api"
	"wicket/disk"
	"wicket/grant"
	"wicket/store"
	"wicket/wal"
)

func notOpened(t *testing.T, what string, d *disk.Disk, most int, want api.Errno) {
	t.Helper()
	if e, err := grant.Open(d, most); e != nil || err != want {
		t.Errorf("%s: Open: %v, %d, not %d", what, e, err, want)
	}
}

// P14.1: a new engine has no rows; its clock and its last number are 0.
func TestOpenNew(t *testing.T) {
	for _, most := range []int{1, 2, api.MaxPending} {
		w := begun(t, most)
		if w.e.Now() != 0 || len(w.e.All()) > 0 || len(w.e.Waiting("ann")) > 0 || len(w.e.Pings()) > 0 {
			t.Errorf("most %d: the engine has something", most)
		}
		if r := kept(t, w.d); !same(r, api.Rows{}) {
			t.Errorf("most %d: %v", most, r)
		}
		if m := w.ask(tv()); m.Number != 1 {
			t.Errorf("most %d: the first number is %d", most, m.Number)
		}
	}
}

// P14.1: the errors are those of store.Open.
func TestOpenErrors(t *testing.T) {
	for _, most := range []int{0, -1, api.MaxPending + 1, math.MaxInt, math.MinInt} {
		d := diskOf(t, roomy)
		notOpened(t, "most", d, most, api.ErrArg)
		if d.Count() != 0 {
			t.Error("something was done")
		}
	}
	notOpened(t, "no disk", nil, 1, api.ErrArg)
	notOpened(t, "no room", diskOf(t, 9), 1, api.ErrFull)
	notOpened(t, "rot", diskOf(t, roomy, api.File{Name: "wal-1", Bytes: []byte("rot")}), 1, api.ErrRot)
	d := diskOf(t, roomy)
	l, _ := wal.Open(d)
	l.Append([]byte("no changes"))
	l.Sync()
	notOpened(t, "no changes", d, 1, api.ErrRows)
	w := begun(t, 2)
	w.ask(tv())
	w.ask(till())
	notOpened(t, "more than most", diskOf(t, roomy, w.d.Durable()...), 1, api.ErrRows)
	on(t, diskOf(t, roomy, w.d.Durable()...), 2)
	dead := diskOf(t, roomy)
	dead.Arm(1)
	dead.SyncDir()
	if _, want := store.Open(dead, 1); want == api.OK {
		t.Error("a dead disk is opened")
	} else {
		notOpened(t, "a dead disk", dead, 1, want)
	}
}

// settled is an engine with a request of each kind, and what it is to have.
func settled(t *testing.T) (*world, []api.Pending) {
	t.Helper()
	w := begun(t, 9)
	w.at(50)
	w.ask(tv())
	w.settle(w.ask(tv()), true)
	w.settle(w.ask(till()), false)
	taken := w.ask(box())
	w.settle(taken, true)
	w.poll(taken, api.OK)
	told := w.ask(box())
	w.settle(told, true)
	w.pinged(told.Number, api.OutcomeFailed, api.OK)
	asked := w.ask(till())
	w.poll(asked, api.ErrWait)
	w.poll(asked, api.ErrSlow)
	w.at(60)
	return w, w.e.All()
}

// P14.1: an engine has what the store has, compacted or not; no attempts are counted.
func TestOpenAgain(t *testing.T) {
	w, want := settled(t)
	for range 4 { // behind one that settled took
		w.look("ann", "", api.ErrGuess)
	}
	w.look("ann", "", api.ErrSpent)
	for range 2 {
		next := w.again(api.Crash{})
		if !slices.Equal(next.e.All(), want) || next.e.Now() != 60 {
			t.Fatalf("at %d there are\n%v\nnot\n%v", next.e.Now(), next.e.All(), want)
		}
		for range 5 {
			next.look("ann", "", api.ErrGuess)
		}
		next.look("ann", "", api.ErrSpent)
		if m := next.ask(tv()); m.Number != 7 {
			t.Errorf("the next number is %d", m.Number)
		}
		if err := w.e.Compact(); err != api.OK {
			t.Fatalf("Compact: %d", err)
		}
	}
}

// P14.1, P14.3: the last number stays where its row is dropped.
func TestLastNumberStays(t *testing.T) {
	w := begun(t, 2)
	w.ask(lasting(tv(), 1))
	w.ask(lasting(tv(), 1))
	w.at(700, 1, 2)
	w.ask(lasting(tv(), 1))
	w.at(1400, 3)
	w = w.again(api.Crash{})
	w.ask(tv())
	if r := kept(t, w.d); len(r.Pending) != 1 || r.Pending[0].Number != 4 || r.Marks != [8]uint64{1400, 4} {
		t.Errorf("%v", r)
	}
}

// P14.1, P14.13: the power fails ahead of each operation of opening; then it is opened with what it had.
func TestPowerFailsWhileOpening(t *testing.T) {
	w, want := settled(t)
	w.d.Arm(1)
	w.e.Tick(61)
	for _, c := range []api.Crash{all(), {}, tailed(9, 3)} {
		files := w.d.Left(c)
		failed := 0
		for n := 1; ; n++ {
			d := diskOf(t, roomy, files...)
			d.Arm(n)
			e, err := grant.Open(d, 9)
			if err == api.OK {
				break
			}
			failed++
			if e != nil || err != api.ErrDead {
				t.Fatalf("Open: %v, %d", e, err)
			}
			again := on(t, diskOf(t, roomy, d.Left(all())...), 9)
			if !slices.Equal(again.e.All(), want) || again.e.Now() != 60 {
				t.Fatalf("at %d there are\n%v\nnot\n%v", again.e.Now(), again.e.All(), want)
			}
		}
		if c.Dir == 9 && failed == 0 {
			t.Error("the power never failed")
		}
	}
	for n := 1; n <= 5; n++ {
		d := diskOf(t, roomy)
		d.Arm(n)
		notOpened(t, "the power fails", d, 9, api.ErrDead)
		next := on(t, diskOf(t, roomy, d.Left(all())...), 9)
		if next.e.Now() != 0 || len(next.e.All()) > 0 {
			t.Error("something is there")
		}
	}
}
