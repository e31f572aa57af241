package store_test

import (
	"math"
	"slices"
	"strconv"
	"strings"
	"testing"

	"wicket/api"
	"wicket/disk"
	"wicket/frame"
	"wicket/store"
	"wicket/wal"
)

// notOpened: Open answers that error, and no store.
func notOpened(t *testing.T, what string, d *disk.Disk, most int, want api.Errno) {
	t.Helper()
	if s, e := store.Open(d, most); s != nil || e != want {
		t.Errorf("%s: Open: %v, %d, not %d", what, s, e, want)
	}
}

// P12.5, P12.6: the chapter's examples.
func TestExampleStore(t *testing.T) {
	d, s := begun(t, roomy, 2)
	does(t, s, add(tv(1)))
	f, s := begun(t, roomy, 2, d.Durable()...)
	has(t, s, rows(tv(1)))
	refuses(t, f, s, api.ErrNone, 1, drop(1), drop(9))
	_, s = begun(t, roomy, 2, f.Left(all())...)
	has(t, s, rows(tv(1)))
	_, s = begun(t, roomy, 1)
	for i := range 64 {
		does(t, s, mark(0, uint64(i)))
		if s.Logged() != i+1 {
			t.Fatalf("%d records behind %d Dos", s.Logged(), i+1)
		}
	}
	does(t, s, mark(0, 64))
	if s.Logged() != 1 || s.Mark(0) != 64 {
		t.Errorf("%d records", s.Logged())
	}
}

// P12.5: most is asked ahead of the disk, and the disk is let be then.
func TestOpenMost(t *testing.T) {
	for _, most := range []int{0, -1, 1025, math.MaxInt, math.MinInt} {
		d := diskOf(t, roomy)
		notOpened(t, "most", d, most, api.ErrArg)
		if d.Count() != 0 || len(d.List()) != 0 {
			t.Errorf("Open of %d has done something", most)
		}
		notOpened(t, "most and no disk", nil, most, api.ErrArg)
		notOpened(t, "most and a wrong log", logOf(t, "wrong"), most, api.ErrArg)
		notOpened(t, "most and a rotten log", diskOf(t, roomy, api.File{Name: "wal-1"}), most, api.ErrArg)
	}
	for _, most := range []int{1, 2, 1023, 1024} {
		d, s := begun(t, roomy, most)
		has(t, s, api.Rows{})
		l := tvs(most)
		for n := 0; n < most; n += 64 {
			var changes []api.Change
			for _, p := range l[n:min(most, n+64)] {
				changes = append(changes, add(p))
			}
			does(t, s, changes...)
		}
		has(t, s, rows(l...))
		refuses(t, d, s, api.ErrFull, 0, add(tv(5000)))
		refuses(t, d, s, api.ErrFull, 1, mark(0, 1), add(till(5000)))
		does(t, s, drop(1), add(tv(5000)))
		has(t, s, rows(append(l[1:], tv(5000))...))
	}
}

// P12.5: the log's errors are told.
func TestOpenWithoutALog(t *testing.T) {
	notOpened(t, "no disk", nil, 1, api.ErrArg)
	d := diskOf(t, roomy)
	d.Arm(1)
	d.SyncDir()
	notOpened(t, "a dead disk", d, 1, api.ErrArg)
	notOpened(t, "no room", diskOf(t, 9), 1, api.ErrFull)
	notOpened(t, "rot", diskOf(t, roomy, api.File{Name: "wal-1", Bytes: []byte("rot")}), 1, api.ErrRot)
	for n := range 5 {
		d := diskOf(t, roomy)
		d.Arm(n + 1)
		notOpened(t, "the power fails", d, 1, api.ErrDead)
	}
}

// P12.5: the rows are those of the state, and of the records done on it.
func TestOpenTellsTheLog(t *testing.T) {
	first := marked(rows(tv(1), till(2)))
	for _, c := range []struct {
		what    string
		want    api.Rows
		state   string
		records []string
	}{
		{"nothing", api.Rows{}, "", nil},
		{"a state of none", api.Rows{}, zeros(9), nil},
		{"a state", first, rowsBytes(first), nil},
		{"a record", rows(tv(1)), "", []string{changesBytes(add(tv(1)))}},
		{"records", rows(approved(tv(1)), box(3)), "", []string{changesBytes(add(tv(1)), add(till(2))), changesBytes(alter(approved(tv(1)))), changesBytes(drop(2), add(box(3)))}},
		{"both", marked(rows(approved(tv(1)), box(3))), rowsBytes(first), []string{changesBytes(alter(approved(tv(1))), drop(2)), changesBytes(add(box(3)))}},
		{"marks", api.Rows{Marks: [8]uint64{1, 0, 0, 0, 0, 0, 0, 9}}, "", []string{changesBytes(mark(0, 5), mark(7, 9)), changesBytes(mark(0, 1))}},
	} {
		d := logOf(t, c.state, c.records...)
		for _, most := range []int{2, 1024} {
			s := opened(t, diskOf(t, roomy, d.Durable()...), most)
			has(t, s, c.want)
			if s.Logged() != len(c.records) {
				t.Errorf("%s: %d records", c.what, s.Logged())
			}
		}
	}
}

// P12.5: what no store can have written.
func TestOpenOfNoRows(t *testing.T) {
	two := rowsBytes(rows(tv(1), tv(2)))
	one := rowsBytes(rows(tv(1)))
	for _, c := range []struct {
		what    string
		most    int
		state   string
		records []string
	}{
		{"a state that is none", 9, "\x00", nil},
		{"a state that is cut", 9, one[:len(one)-1], nil},
		{"a state with a tail", 9, one + "\x00", nil},
		{"a state with a twin", 9, rowsBytes(rows(tv(1), twin(2, 1, 2))), nil},
		{"more than most", 1, two, nil},
		{"more than most", 1023, rowsBytes(rows(tvs(1024)...)), nil},
		{"more than most, dropped later", 1, two, []string{changesBytes(drop(1))}},
		{"an empty record", 9, "", []string{""}},
		{"a record without changes", 9, one, []string{"\x00"}},
		{"a record with a tail", 9, one, []string{changesBytes(drop(1)) + "\x00"}},
		{"a record that is cut", 9, one, []string{changesBytes(drop(1), mark(0, 1))[:4]}},
		{"a record of a wrong mark", 9, "", []string{"\x01\x04\x08\x00"}},
		{"a record of no row", 9, "", []string{changesBytes(add(tv(0)))}},
		{"a record of 65", 9, "", []string{changesBytes(marks(65)...)}},
		{"ErrThere", 9, one, []string{changesBytes(add(tv(1)))}},
		{"ErrHandle", 9, one, []string{changesBytes(add(twin(2, 1, 2)))}},
		{"ErrUserCode", 9, one, []string{changesBytes(add(twin(2, 2, 1)))}},
		{"ErrFull", 1, one, []string{changesBytes(add(tv(2)))}},
		{"ErrFull, dropped in the record", 1, one, []string{changesBytes(add(tv(2)), drop(1))}},
		{"ErrFull, dropped later", 1, "", []string{changesBytes(add(tv(1)), add(tv(2))), changesBytes(drop(1))}},
		{"ErrNone of an Alter", 9, one, []string{changesBytes(alter(tv(2)))}},
		{"ErrNone of a Drop", 9, one, []string{changesBytes(mark(0, 1), drop(2))}},
		{"ErrFixed", 9, one, []string{changesBytes(alter(twin(1, 1, 2)))}},
		{"the last of many", 9, one, append(slices.Repeat([]string{changesBytes(mark(0, 1))}, 70), changesBytes(drop(7)))},
		{"the first of many", 9, one, append([]string{changesBytes(add(tv(1)))}, changesBytes(mark(0, 1)))},
	} {
		notOpened(t, c.what, logOf(t, c.state, c.records...), c.most, api.ErrRows)
	}
}

// P12.6: each error of Apply is told, with its number, and nothing is written.
func TestDoTellsApplysErrors(t *testing.T) {
	d, s := begun(t, roomy, 3)
	does(t, s, add(tv(1)), add(till(2)), mark(3, 30))
	for _, changes := range [][]api.Change{
		nil, marks(65), {{Kind: 5}}, {drop(1), {Kind: 3, Number: 1, Mark: 1}}, {drop(1), add(tv(0))}, {drop(1), mark(8, 0)}, {mark(0, 1), mark(-1, 1)},
		{add(tv(1))}, {mark(3, 31), add(tv(1))}, {drop(1), add(tv(1)), add(tv(1))}, {add(twin(7, 2, 7))}, {add(box(9)), alter(approved(tv(1))), add(twin(7, 7, 1))},
		{add(tv(7)), add(tv(8))}, {drop(2), drop(1), add(tv(7)), add(tv(8)), add(tv(9)), mark(3, 9), add(tv(10))},
		{alter(tv(7))}, {alter(approved(tv(1))), alter(twin(1, 1, 7))}, {drop(9)}, {drop(1), drop(2), drop(1)}, {drop(1), alter(tv(1))},
		{mark(0, 1), mark(1, 2), mark(0, 3), mark(3, 4), drop(1), add(twin(1, 8, 8)), alter(approved(twin(1, 8, 8))), drop(2), add(tv(2)), drop(9)},
	} {
		_, e, at := store.Apply(s.All(), 3, changes)
		if e == api.OK {
			t.Fatalf("%v: OK", changes)
		}
		refuses(t, d, s, e, at, changes...)
		lacks(t, s, tv(7))
		lacks(t, s, twin(99, 8, 8))
	}
	has(t, s, api.Rows{Pending: []api.Pending{tv(1), till(2)}, Marks: [8]uint64{3: 30}})
}

// P12.6: one Do is one record, appended and synced.
func TestDoIsOneRecord(t *testing.T) {
	d, s := begun(t, roomy, 1024)
	count := d.Count()
	want := []string{}
	for i, changes := range [][]api.Change{{add(tv(1))}, {add(till(2)), alter(approved(tv(1))), mark(0, 7)}, marks(64), {alter(approved(tv(1)))}, {drop(2)}} {
		does(t, s, changes...)
		want = append(want, changesBytes(changes...))
		if state, records := lies(t, diskOf(t, roomy, d.Durable()...)); state != "" || !slices.Equal(records, want) {
			t.Fatalf("%q, %q lie there, not %q", state, records, want)
		}
		if d.Count() != count+2*(i+1) || s.Logged() != i+1 {
			t.Fatalf("%d operations, %d records", d.Count()-count, s.Logged())
		}
	}
	has(t, s, api.Rows{Pending: []api.Pending{approved(tv(1))}, Marks: [8]uint64{64}})
}

// loaded is a store with two rows and so many records.
func loaded(t *testing.T, room, records int) (*disk.Disk, *store.Store) {
	t.Helper()
	d, s := begun(t, room, 9)
	does(t, s, add(tv(1)), add(till(2)))
	for i := range records - 1 {
		does(t, s, mark(0, uint64(i)))
	}
	return d, s
}

// P12.6: with CompactAfter records or more Compact is done first, of the rows ahead of the changes.
func TestDoCompactsFirst(t *testing.T) {
	for _, records := range []int{62, 63, 64} {
		d, s := loaded(t, roomy, records)
		was, count := s.All(), d.Count()
		does(t, s, drop(1), add(box(3)))
		state, lie := lies(t, d)
		if records < 64 {
			if d.Count() != count+2 || state != "" || len(lie) != records+1 {
				t.Errorf("%d records: %d operations", records, d.Count()-count)
			}
			continue
		}
		if d.Count() != count+9 || state != rowsBytes(was) || !slices.Equal(lie, []string{changesBytes(drop(1), add(box(3)))}) || s.Logged() != 1 {
			t.Errorf("%d operations; %q, %q lie there", d.Count()-count, state, lie)
		}
	}
	d := logOf(t, rowsBytes(rows(tv(1))), slices.Repeat([]string{changesBytes(mark(1, 3))}, 100)...)
	s := opened(t, d, 9)
	refuses(t, d, s, api.ErrNone, 0, drop(7))
	refuses(t, d, s, api.ErrChange, 0)
	does(t, s, mark(2, 4))
	if state, lie := lies(t, d); state != rowsBytes(api.Rows{Pending: []api.Pending{tv(1)}, Marks: [8]uint64{1: 3}}) || len(lie) != 1 || s.Logged() != 1 {
		t.Errorf("%q, %q lie there", state, lie)
	}
	ok(t, s.Compact())
	for range 64 {
		does(t, s, mark(2, 4))
	}
	if s.Logged() != 64 {
		t.Errorf("%d records", s.Logged())
	}
}

// generation is the file of a log's generation, with an empty state and no records.
func generation(t *testing.T, number int) api.File {
	t.Helper()
	b, e := frame.Seal(1, frame.PutUint(nil, uint64(number)))
	ok(t, e)
	return api.File{Name: "wal-" + strconv.Itoa(number), Bytes: b}
}

// lastEpoch is a disk with a log that can't be compacted any more.
func lastEpoch(t *testing.T, room int) *disk.Disk {
	t.Helper()
	return diskOf(t, room, generation(t, api.MaxEpoch))
}

// P12.6: what the Compact ahead of the Append answers is let go.
func TestDoLetsCompactsErrorGo(t *testing.T) {
	d := lastEpoch(t, roomy)
	s := opened(t, d, 9)
	for i := range 70 {
		does(t, s, mark(0, uint64(i+1)))
		if s.Logged() != i+1 || s.Mark(0) != uint64(i+1) {
			t.Fatalf("%d records behind %d Dos", s.Logged(), i+1)
		}
	}
	if e := s.Compact(); e != api.ErrFull {
		t.Errorf("Compact: %d", e)
	}
	has(t, opened(t, d, 9), api.Rows{Marks: [8]uint64{70}})
}

// P12.6: wherever the power fails in a Do that compacts first.
func TestDoWithoutPowerCompactsFirst(t *testing.T) {
	for n := 1; n <= 9; n++ {
		want := api.ErrDead
		if n <= 7 {
			want = api.ErrBroken
		}
		failsAt(t, n, want, roomy, 64)
	}
	d, s := loaded(t, roomy, 64)
	d.Arm(10)
	does(t, s, drop(1))
}

// failsAt: the power fails ahead of the n-th operation of a Do: that is its answer, and rows are as they were.
func failsAt(t *testing.T, n int, want api.Errno, room, records int) {
	t.Helper()
	d, s := loaded(t, room, records)
	was := s.All()
	d.Arm(n)
	if e, at := s.Do(drop(1), mark(7, 7)); e != want || at != 0 {
		t.Errorf("Arm(%d): Do: %d, %d, not %d", n, e, at, want)
	}
	has(t, s, was)
	for range 2 {
		refuses(t, d, s, api.ErrBroken, 0, mark(7, 7))
		refuses(t, d, s, api.ErrNone, 1, drop(1), drop(1))
		refuses(t, d, s, api.ErrMark, 0, mark(8, 7))
		if e := s.Compact(); e != api.ErrBroken {
			t.Errorf("Compact: %d", e)
		}
	}
	has(t, s, was)
}

// P12.6: the power fails in a Do that appends and syncs alone.
func TestDoWithoutPower(t *testing.T) {
	for n := 1; n <= 2; n++ {
		failsAt(t, n, api.ErrDead, roomy, 2)
	}
	d, s := loaded(t, roomy, 2)
	d.Arm(3)
	does(t, s, drop(1))
	refuses(t, d, s, api.ErrNone, 0, drop(1))
	if e, at := s.Do(drop(2)); e != api.ErrDead || at != 0 {
		t.Errorf("the third: %d, %d", e, at)
	}
}

// In a room of 100, the third record of a mark does not fit in behind the first two (10 bytes and 14 each), and does behind a state of 19.
func tight(t *testing.T, room, dos int) (*disk.Disk, *store.Store) {
	t.Helper()
	d, s := begun(t, room, 9)
	for i := range dos {
		does(t, s, mark(1, uint64(i+1)))
	}
	return d, s
}

// P12.6: where the Append is ErrFull, Compact makes room, and the record is appended once more.
func TestDoMakesRoom(t *testing.T) {
	d, s := tight(t, 100, 2)
	count := d.Count()
	does(t, s, mark(2, 9))
	if d.Count() != count+9 || s.Logged() != 1 {
		t.Errorf("%d operations, %d records", d.Count()-count, s.Logged())
	}
	if state, lie := lies(t, d); state != zeros(2)+"\x02"+zeros(6) || !slices.Equal(lie, []string{changesBytes(mark(2, 9))}) {
		t.Errorf("%q, %q lie there", state, lie)
	}
	has(t, s, api.Rows{Marks: [8]uint64{1: 2, 2: 9}})
}

// P12.6: where there is no room behind a Compact either; the Compact stays made.
func TestDoFindsNoRoom(t *testing.T) {
	for _, room := range []int{48, 60, 65} {
		d, s := tight(t, room, 1)
		count := d.Count()
		for range 3 {
			if e, at := s.Do(mark(2, 9)); e != api.ErrFull || at != 0 {
				t.Errorf("room %d: %d, %d", room, e, at)
			}
			has(t, s, api.Rows{Marks: [8]uint64{1: 1}})
		}
		if s.Logged() != 0 || d.Count() != count+21 {
			t.Errorf("room %d: %d records, %d operations", room, s.Logged(), d.Count()-count)
		}
		has(t, opened(t, diskOf(t, room, d.Durable()...), 9), api.Rows{Marks: [8]uint64{1: 1}})
	}
}

// P12.6: where the Compact that should make room has an error, ErrFull it is.
func TestDoCantMakeRoom(t *testing.T) {
	d, s := tight(t, 30, 0)
	refuses(t, d, s, api.ErrFull, 0, mark(1, 1))
	d = lastEpoch(t, 60)
	s = opened(t, d, 9)
	does(t, s, mark(1, 1))
	refuses(t, d, s, api.ErrFull, 0, mark(1, 2))
	refuses(t, d, s, api.ErrFull, 0, mark(1, 2))
	for n := 1; n <= 9; n++ {
		d, s := tight(t, 100, 2)
		d.Arm(n)
		want := api.ErrDead
		if n <= 7 {
			want = api.ErrFull
		}
		if e, at := s.Do(mark(2, 9)); e != want || at != 0 {
			t.Errorf("Arm(%d): %d, %d, not %d", n, e, at, want)
		}
		has(t, s, api.Rows{Marks: [8]uint64{1: 2}})
		refuses(t, d, s, api.ErrBroken, 0, mark(2, 9))
		has(t, s, api.Rows{Marks: [8]uint64{1: 2}})
	}
	d, s = tight(t, 100, 2)
	d.Arm(10)
	does(t, s, mark(2, 9))
}

// P12.6: a disk that has done all the operations that it may.
func TestDoOnAWornDisk(t *testing.T) {
	for left := range 2 {
		d := diskOf(t, roomy)
		for range api.MaxOps - 5 - left {
			d.SyncDir()
		}
		s := opened(t, d, 9)
		if e, at := s.Do(mark(1, 1)); e != api.ErrFull || at != 0 {
			t.Errorf("%d left: %d, %d", left, e, at)
		}
		has(t, s, api.Rows{})
		refuses(t, d, s, api.ErrBroken, 0, mark(1, 1))
	}
}

// P12.6: in a directory that has no place for another file the Compact breaks the log.
func TestDoInAFullDirectory(t *testing.T) {
	files := []api.File{generation(t, 1)}
	for i := range 63 {
		files = append(files, api.File{Name: "f" + strconv.Itoa(i)})
	}
	d, s := begun(t, roomy, 9, files...)
	for range 64 {
		does(t, s, mark(1, 1))
	}
	if e, at := s.Do(mark(1, 2)); e != api.ErrBroken || at != 0 {
		t.Errorf("Do: %d, %d", e, at)
	}
	has(t, s, api.Rows{Marks: [8]uint64{1: 1}})
	has(t, opened(t, diskOf(t, roomy, d.Durable()...), 9), api.Rows{Marks: [8]uint64{1: 1}})
}

// P12.7: Compact writes the rows' bytes as the log's state, and changes no row.
func TestCompact(t *testing.T) {
	d, s := begun(t, roomy, 1024)
	want := api.Rows{}
	for i, changes := range [][]api.Change{nil, {mark(7, 9)}, {add(tv(1)), add(box(3)), add(till(2))}, {drop(1), alter(approved(till(2)))}} {
		if changes != nil {
			does(t, s, changes...)
			want, _, _ = store.Apply(want, 1024, changes)
		}
		for range 2 {
			count := d.Count()
			if e := s.Compact(); e != api.OK || d.Count() != count+7 || s.Logged() != 0 {
				t.Fatalf("%d: Compact: %d, %d operations, %d records", i, e, d.Count()-count, s.Logged())
			}
			has(t, s, want)
			if state, lie := lies(t, diskOf(t, roomy, d.Durable()...)); state != rowsBytes(want) || len(lie) != 0 {
				t.Fatalf("%d: %q, %q lie there", i, state, lie)
			}
		}
		_, again := begun(t, roomy, 1024, d.Durable()...)
		has(t, again, want)
	}
}

// P12.7: Compact's answer is Snapshot's.
func TestCompactsErrors(t *testing.T) {
	d, s := tight(t, 24, 0)
	was := look(d, s)
	if e := s.Compact(); e != api.ErrFull || look(d, s) != was {
		t.Errorf("no room: %d", e)
	}
	for n := 1; n <= 7; n++ {
		d, s := loaded(t, roomy, 3)
		rs := s.All()
		d.Arm(n)
		if e := s.Compact(); e != api.ErrDead || s.Logged() != 3 {
			t.Errorf("Arm(%d): %d, %d records", n, e, s.Logged())
		}
		if e := s.Compact(); e != api.ErrBroken {
			t.Errorf("Arm(%d): %d", n, e)
		}
		has(t, s, rs)
	}
}

// P12.8: each way to find a row, and what none has.
func TestAsked(t *testing.T) {
	d, s := begun(t, roomy, 20)
	does(t, s, add(tv(5)), add(till(3)), add(box(4)), add(tv(1)), add(tv(9)), add(till(2)), mark(6, 66))
	want := api.Rows{Pending: []api.Pending{tv(1), till(2), till(3), box(4), tv(5), tv(9)}, Marks: [8]uint64{6: 66}}
	was := look(d, s)
	has(t, s, want)
	if l := s.Client("tv"); !slices.Equal(l, []api.Pending{tv(1), tv(5), tv(9)}) {
		t.Errorf("Client: %v", l)
	}
	for _, n := range []uint64{0, 6, math.MaxUint64} {
		lacks(t, s, tv(n))
	}
	for _, h := range []string{"", handle(1)[1:], handle(1) + "\x00", handle(1)[:31], zeros(32), strings.Repeat("x", 1000)} {
		if p, there := s.Handle(h); there || p != (api.Pending{}) {
			t.Errorf("Handle(%q): %v", h, p)
		}
	}
	for _, c := range []string{"", code(1)[1:], code(1) + "A", strings.ToLower(code(1)), code(3), code(4), "AAAA-AAB", zeros(8), strings.Repeat("A", 1000)} {
		if p, there := s.Code(c); there || p != (api.Pending{}) {
			t.Errorf("Code(%q): %v", c, p)
		}
	}
	for _, c := range []string{"", "t", "tvs", "TV", "ann", "tv\x00", strings.Repeat("t", 1000)} {
		if l := s.Client(c); len(l) != 0 {
			t.Errorf("Client(%q): %v", c, l)
		}
	}
	for _, i := range []int{-1, 8, math.MaxInt, math.MinInt} {
		if s.Mark(i) != 0 {
			t.Errorf("Mark(%d): %d", i, s.Mark(i))
		}
	}
	if look(d, s) != was {
		t.Error("asking has changed something")
	}
}

// P12.8: the ways follow what is done.
func TestAskedBehindChanges(t *testing.T) {
	_, s := begun(t, roomy, 20)
	does(t, s, add(tv(5)), add(tv(1)), add(tv(9)), add(till(3)))
	does(t, s, alter(approved(tv(5))), drop(1))
	has(t, s, rows(till(3), approved(tv(5)), tv(9)))
	lacks(t, s, tv(1))
	does(t, s, drop(9), drop(5))
	has(t, s, rows(till(3)))
	lacks(t, s, tv(5))
	lacks(t, s, tv(9))
	if len(s.Client("tv")) != 0 {
		t.Error("a client without rows")
	}
	p := box(1)
	p.Client, p.Handle = "tv", handle(9)
	does(t, s, add(twin(7, 1, 9)), add(p))
	has(t, s, rows(p, till(3), twin(7, 1, 9)))
	does(t, s, drop(1), drop(3), drop(7))
	has(t, s, api.Rows{})
}

// P12.9: a nil Store.
func TestNilStore(t *testing.T) {
	var s *store.Store
	for _, changes := range [][]api.Change{nil, {add(tv(1))}, {drop(9)}, {{Kind: 9}}, marks(65)} {
		if e, at := s.Do(changes...); e != api.OK || at != 0 {
			t.Errorf("Do: %d, %d", e, at)
		}
	}
	ok(t, s.Compact())
	lacks(t, s, tv(1))
	has(t, s, api.Rows{})
	if s.Count() != 0 || s.Logged() != 0 || s.Mark(0) != 0 || s.Mark(-1) != 0 || s.Mark(8) != 0 || len(s.Client("tv")) != 0 {
		t.Error("a nil Store tells something")
	}
}

// P12.5: a log that a store wrote is a log as others know it.
func TestStoresLog(t *testing.T) {
	d, s := loaded(t, roomy, 3)
	ok(t, s.Compact())
	does(t, s, drop(2))
	l, e := wal.Open(diskOf(t, roomy, d.Durable()...))
	ok(t, e)
	if l.Epoch() != 2 || l.Count() != 1 || string(l.State()) != rowsBytes(api.Rows{Pending: []api.Pending{tv(1), till(2)}, Marks: [8]uint64{1}}) {
		t.Errorf("%d, %d, %q", l.Epoch(), l.Count(), l.State())
	}
}
