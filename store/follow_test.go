package store_test

import (
	"bytes"
	"math/rand"
	"slices"
	"testing"

	"wicket/api"
	"wicket/disk"
	"wicket/store"
)

// P12.10: the greatest rows that are right fit into a log's state, the greatest changes into a record.
func TestTheGreatestFit(t *testing.T) {
	d, s := begun(t, roomy, 1024)
	var want api.Rows
	for n := range uint64(16) {
		var changes []api.Change
		for i := range uint64(64) {
			p := greatest(64*n + i)
			want.Pending = append(want.Pending, p)
			changes = append(changes, add(p))
		}
		if b, e := store.PutChanges(changes); e != api.OK || len(b) > api.MaxRecord {
			t.Fatalf("%d bytes, %d", len(b), e)
		}
		does(t, s, changes...)
	}
	var last []api.Change
	for i := range want.Marks {
		want.Marks[i] = api.Forever
		last = append(last, mark(i, api.Forever))
	}
	does(t, s, last...)
	has(t, s, want)
	_, again := begun(t, roomy, 1024, d.Durable()...)
	has(t, again, want)
	if b, e := store.PutRows(want); e != api.OK || len(b) >= api.MaxState {
		t.Fatalf("%d bytes, %d", len(b), e)
	}
	ok(t, s.Compact())
	_, again = begun(t, roomy, 1024, d.Durable()...)
	has(t, again, want)
	if again.Logged() != 0 {
		t.Errorf("%d records", again.Logged())
	}
}

// P12.10: what is put is read back, and what is read is what is put, over drawn rows.
func TestOneForm(t *testing.T) {
	r := rand.New(rand.NewSource(123))
	for range 300 {
		var now api.Rows
		var done []api.Change
		for range r.Intn(40) {
			changes := drawnChanges(r)
			if next, e, _ := store.Apply(now, 1024, changes); e == api.OK {
				now, done = next, append(done, changes...)
			}
		}
		b, e := store.PutRows(now)
		read, e2 := store.Rows(b)
		again, e3 := store.PutRows(read)
		if e != api.OK || e2 != api.OK || e3 != api.OK || !same(read, now) || !bytes.Equal(b, again) {
			t.Fatalf("rows: %d, %d, %d", e, e2, e3)
		}
		for _, p := range now.Pending {
			b, e := store.PutPending(p)
			if q, n, e2 := store.Pending(b); e != api.OK || e2 != api.OK || q != p || n != len(b) {
				t.Fatalf("%v: %d, %d, %d", p, n, e, e2)
			}
		}
		if done = done[:min(len(done), 64)]; len(done) > 0 {
			b, e := store.PutChanges(done)
			if l, e2 := store.Changes(b); e != api.OK || e2 != api.OK || !slices.Equal(l, done) {
				t.Fatalf("changes: %d, %d", e, e2)
			}
		}
	}
}

// past is what was done to a store, as far as P12.11 hangs on it.
type past struct {
	most int
	sure api.Rows   // behind the Dos that answered OK
	half []api.Rows // behind the one under which the power failed, if there is one
}

// do does it, and holds the answer against the slow Apply's.
func (p *past) do(t *testing.T, d *disk.Disk, s *store.Store, changes ...api.Change) {
	t.Helper()
	want, wantE, wantAt := slowApply(p.sure, p.most, changes)
	dead := d.Dead()
	e, at := s.Do(changes...)
	switch {
	case wantE != api.OK:
		if e != wantE || at != wantAt {
			t.Fatalf("%v: %d, %d, not %d, %d", changes, e, at, wantE, wantAt)
		}
	case e == api.OK:
		p.sure = want
	case at != 0 || !slices.Contains([]api.Errno{api.ErrDead, api.ErrBroken, api.ErrFull}, e):
		t.Fatalf("%v: %d, %d", changes, e, at)
	case d.Dead() && !dead:
		p.half = append(p.half, want)
	}
	has(t, s, p.sure)
}

func (p *past) allows(r api.Rows) bool {
	return same(r, p.sure) || len(p.half) > 0 && same(r, p.half[0])
}

// story does what is to be done, whatever the answers are.
func story(t *testing.T, d *disk.Disk, s *store.Store) *past {
	t.Helper()
	p := &past{most: 4}
	p.do(t, d, s, add(tv(1)), mark(1, 1))
	p.do(t, d, s, drop(1), drop(9))
	p.do(t, d, s, mark(0, 1))
	p.do(t, d, s, add(box(2)), alter(approved(tv(1))), mark(1, 2))
	s.Compact()
	p.do(t, d, s, drop(1), add(twin(3, 1, 1)))
	p.do(t, d, s, mark(0, 2), mark(1, 3), add(till(4)), add(till(5)), mark(0, 3))
	p.do(t, d, s, add(till(6)))
	s.Compact()
	s.Compact()
	p.do(t, d, s, drop(3), drop(2), add(tv(7)), alter(approved(till(4))))
	p.do(t, d, s, mark(7, 7))
	return p
}

// leavings are the ways in which a power failure takes what was not synced, as far as they can be told in a story.
func leavings() []api.Crash {
	var list []api.Crash
	for tail := range 300 {
		list = append(list, tailed(0, tail), tailed(9, tail))
	}
	for dir := range 5 {
		list = append(list, tailed(dir, 0), tailed(dir, 12), tailed(dir, 400))
	}
	return append(list, all(), api.Crash{})
}

// P12.11: the power fails at every operation of Dos and Compacts, and is taken back in every way.
func TestNothingAnsweredIsLost(t *testing.T) {
	crashes := leavings()
	halves := 0
	for n := range 45 {
		d, s := begun(t, roomy, 4)
		d.Arm(n)
		p := story(t, d, s)
		for _, c := range crashes {
			_, again := begun(t, roomy, 4, d.Left(c)...)
			r := again.All()
			if !p.allows(r) {
				t.Fatalf("Arm(%d), %d: the store has\n%s\nbehind\n%s", n, c.Dir, said(r), said(p.sure))
			}
			if !same(r, p.sure) {
				halves++
			}
		}
		if n > 0 && n <= 35 != d.Dead() {
			t.Fatalf("Arm(%d): dead: %v", n, d.Dead())
		}
	}
	if halves == 0 {
		t.Error("no Do that was under way is ever there")
	}
}

// P12.11: the power fails under a Do that compacts first, or to make room.
func TestNothingIsLostWhileItCompacts(t *testing.T) {
	for n := range 11 {
		d, s := loaded(t, roomy, 64)
		lost(t, n, d, s, roomy)
		d, s = tight(t, 100, 2)
		lost(t, n, d, s, 100)
	}
}

func lost(t *testing.T, n int, d *disk.Disk, s *store.Store, room int) {
	t.Helper()
	p := &past{most: 9, sure: s.All()}
	d.Arm(n)
	p.do(t, d, s, mark(2, 9))
	p.do(t, d, s, mark(3, 9))
	for _, c := range leavings() {
		if _, again := begun(t, room, 9, d.Left(c)...); !p.allows(again.All()) {
			t.Fatalf("Arm(%d), %d: the store has\n%s\nbehind\n%s", n, c.Dir, said(again.All()), said(p.sure))
		}
	}
}

// P12.11: the power fails at every operation of an Open too, and again.
func TestNothingIsLostWhileItOpens(t *testing.T) {
	r := rand.New(rand.NewSource(124))
	for n := range 45 {
		d, s := begun(t, roomy, 4)
		d.Arm(n)
		p := story(t, d, s)
		for range 12 {
			files := d.Left(drawnCrash(r))
			_, first := begun(t, roomy, 4, files...)
			for armed := 1; armed <= 9; armed++ {
				last := openedAtLast(t, r, files, armed)
				if got := last.All(); !p.allows(got) || !same(got, first.All()) {
					t.Fatalf("Arm(%d), then %d: the store has\n%s\nbehind\n%s", n, armed, said(got), said(p.sure))
				}
			}
		}
	}
}

// openedAtLast opens what is left of an Open whose power failed, till one is done, and once more what is left of that.
func openedAtLast(t *testing.T, r *rand.Rand, files []api.File, armed int) *store.Store {
	t.Helper()
	for {
		d := diskOf(t, roomy, files...)
		d.Arm(armed)
		s, e := store.Open(d, 4)
		files = d.Left(drawnCrash(r))
		if e == api.OK {
			has(t, opened(t, diskOf(t, roomy, files...), 4), s.All())
			return s
		}
		if e != api.ErrDead || s != nil {
			t.Fatalf("Open: %d", e)
		}
		armed = 1 + r.Intn(9)
	}
}

// P12.6 to P12.8, P12.11, rule 4: lives of many power failures, in little room and in much, a store beside another.
func TestLives(t *testing.T) {
	for seed := range int64(150) {
		r := rand.New(rand.NewSource(seed))
		room := pick(r, roomy, 200+r.Intn(2000))
		p := &past{most: 1 + r.Intn(9)}
		d, s := begun(t, room, p.most)
		_, other := begun(t, roomy, 9)
		does(t, other, add(tv(1)))
		for range 10 {
			d.Arm(r.Intn(60))
			for range r.Intn(60) {
				if r.Intn(15) == 0 {
					s.Compact()
				}
				p.do(t, d, s, drawnChanges(r)...)
			}
			d, s = begun(t, room, p.most, d.Left(drawnCrash(r))...)
			if !p.allows(s.All()) {
				t.Fatalf("seed %d: the store has\n%s\nbehind\n%s", seed, said(s.All()), said(p.sure))
			}
			p.sure, p.half = s.All(), nil
			has(t, s, p.sure)
		}
		has(t, other, rows(tv(1)))
	}
}

// drawnLife is changes that can all be done one behind the other, and what comes of them.
func drawnLife(r *rand.Rand, most int) ([]api.Change, api.Rows) {
	var done []api.Change
	var now api.Rows
	for range 400 {
		c := drawnChange(r)
		if next, e, _ := slowApply(now, most, []api.Change{c}); e == api.OK {
			now, done = next, append(done, c)
		}
	}
	return done, now
}

// P12.12: however the changes are cut into calls, and wherever Compact and Open come between.
func TestHoweverTheyAreCut(t *testing.T) {
	for seed := range int64(40) {
		r := rand.New(rand.NewSource(seed))
		most := 1 + r.Intn(9)
		changes, want := drawnLife(r, most)
		for _, longest := range []int{1, 2, 7, 64} {
			d, s := begun(t, roomy, most)
			for at := 0; at < len(changes); {
				to := min(len(changes), at+1+r.Intn(longest))
				does(t, s, changes[at:to]...)
				at = to
				switch r.Intn(12) {
				case 0:
					ok(t, s.Compact())
				case 1:
					s = opened(t, d, most)
				case 2:
					d, s = begun(t, roomy, most, d.Durable()...)
				}
			}
			has(t, s, want)
			has(t, opened(t, d, most), want)
			ok(t, s.Compact())
		}
		cutForApply(t, r, most, changes, want)
	}
}

// cutForApply: of Apply the same is true.
func cutForApply(t *testing.T, r *rand.Rand, most int, changes []api.Change, want api.Rows) {
	t.Helper()
	var now api.Rows
	for len(changes) > 0 {
		n := 1 + r.Intn(min(64, len(changes)))
		next, e, at := store.Apply(now, most, changes[:n])
		if e != api.OK || at != 0 {
			t.Fatalf("Apply: %d, %d", e, at)
		}
		now, changes = next, changes[n:]
	}
	if !same(now, want) {
		t.Fatalf("%s\nnot\n%s", said(now), said(want))
	}
}
