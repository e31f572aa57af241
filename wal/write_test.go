package wal_test

import (
	"strings"
	"testing"

	"wicket/api"
	"wicket/disk"
	"wicket/wal"
)

// Example 2, P6.3, P6.4: a record's frame, and that it is safe behind a Sync.
func TestAppendAndSync(t *testing.T) {
	d, l := begun(t, 1000)
	was := told(d.Durable())
	ok(t, l.Append([]byte("ab")))
	tells(t, l, 1, 0, "", "ab")
	b, _ := d.Read("wal-1")
	if len(b) != 22 || string(b[18:]) != "\x02\x01ab" {
		t.Errorf("% x", b)
	}
	has(t, d, generation(1, "", "", "ab"))
	if told(d.Durable()) != was {
		t.Error("safe ahead of the Sync")
	}
	cut, m := begun(t, 1000, d.Left(tailed(0, 3))...)
	tells(t, m, 2, 3, "")
	has(t, cut, generation(2, "", ""))
	ok(t, l.Sync())
	if told(d.Durable()) != told(there(d)) {
		t.Error("not safe behind the Sync")
	}
	tells(t, l, 1, 0, "", "ab")
}

// P6.3: records of all lengths, in their order.
func TestRecords(t *testing.T) {
	d, l := begun(t, roomy)
	var want []string
	for i := range 150 {
		want = append(want, strings.Repeat("r", i*i%777))
		ok(t, l.Append([]byte(want[i])))
	}
	want = append(want, "", strings.Repeat("\xff", api.MaxRecord), "last")
	ok(t, l.Append(nil), l.Append([]byte(want[151])), l.Append([]byte("last")), l.Sync())
	tells(t, l, 1, 0, "", want...)
	has(t, d, generation(1, "", "", want...))
	tells(t, opened(t, d), 1, 0, "", want...)
}

// behind makes ready a call of a log with a state and a record.
func behind(t *testing.T, call func(l *wal.Log) api.Errno) func() (*disk.Disk, func() api.Errno) {
	return func() (*disk.Disk, func() api.Errno) {
		d, l := begun(t, 1000, generation(3, "", "S"), holds("other", "x"))
		ok(t, l.Append([]byte("unsynced")))
		return d, func() api.Errno { return call(l) }
	}
}

// P6.3 to P6.5: the operations, and none beside them, wherever the power fails.
func TestWritingTakesItsSteps(t *testing.T) {
	takes(t, behind(t, func(l *wal.Log) api.Errno { return l.Append([]byte("more")) }), write("wal-3", sealed(2, 2, "more")))
	takes(t, behind(t, func(l *wal.Log) api.Errno { return l.Append(nil) }), write("wal-3", sealed(2, 2, "")))
	takes(t, behind(t, func(l *wal.Log) api.Errno { return l.Sync() }), sync("wal-3"))
	takes(t, behind(t, func(l *wal.Log) api.Errno { return l.Snapshot([]byte("T")) }), append(making(generation(4, "", "T")), remove("wal-3"), syncDir)...)
	takes(t, behind(t, func(l *wal.Log) api.Errno { return l.Snapshot(nil) }), append(making(generation(4, "", "")), remove("wal-3"), syncDir)...)
}

// P6.3: the first of its errors is answered.
func TestAppendTooLong(t *testing.T) {
	d, l := begun(t, roomy)
	long := make([]byte, api.MaxRecord+1)
	stays(t, d, l, "a long record", api.ErrLong, func() api.Errno { return l.Append(long) })
	ok(t, l.Append(long[1:]))
	d, l = begun(t, 10)
	stays(t, d, l, "a long record without room", api.ErrLong, func() api.Errno { return l.Append(long) })
	d.Arm(1)
	is(t, "Sync", l.Sync(), api.ErrDead)
	stays(t, d, l, "a long record behind a broken log", api.ErrLong, func() api.Errno { return l.Append(long) })
	stays(t, d, l, "a record behind a broken log", api.ErrBroken, func() api.Errno { return l.Append(long[1:]) })
}

// Example 5, P6.3: there is room for a copy of the file, at its edges.
func TestAppendWithoutRoom(t *testing.T) {
	d, l := begun(t, 24)
	stays(t, d, l, "two bytes, with 24", api.ErrFull, func() api.Errno { return l.Append([]byte("ab")) })
	for room := 10; room < 120; room++ {
		d, l := begun(t, room+5, holds("other", "12345"))
		size, count := 10, 0
		for size+11 <= room-size-11 {
			ok(t, l.Append([]byte("a")))
			size, count = size+11, count+1
		}
		stays(t, d, l, "one too many", api.ErrFull, func() api.Errno { return l.Append([]byte("a")) })
		if l.Count() != count || l.Broken() || d.Free() != room-size {
			t.Fatalf("room %d: %d records, not %d", room, l.Count(), count)
		}
		ok(t, l.Sync())
	}
}

// P6.3: a file has at most MaxFile bytes.
func TestAppendToTheGreatestFile(t *testing.T) {
	d, l := begun(t, roomy)
	record := make([]byte, api.MaxRecord)
	for range 63 {
		ok(t, l.Append(record))
	}
	left := api.MaxFile - 10 - 63*65546
	stays := func(p []byte) {
		t.Helper()
		count, operations := l.Count(), d.Count()
		is(t, "Append", l.Append(p), api.ErrFull)
		if l.Count() != count || d.Count() != operations || l.Broken() {
			t.Error("something has changed")
		}
	}
	stays(record)
	stays(record[:left-9])
	ok(t, l.Append(record[:left-10]))
	stays(nil)
	ok(t, l.Sync())
	if b, _ := d.Read("wal-1"); len(b) != api.MaxFile {
		t.Errorf("%d bytes", len(b))
	}
	m := opened(t, d)
	if m.Count() != 64 || m.Cut() != 0 || len(m.Records()[63]) != left-10 {
		t.Errorf("%d records", m.Count())
	}
	files := there(d)
	files[0].Bytes = files[0].Bytes[:api.MaxFile-1]
	if _, m = begun(t, roomy, files...); m.Count() != 63 || m.Cut() != left-1 {
		t.Errorf("torn: %d records, %d cut", m.Count(), m.Cut())
	}
	ok(t, l.Snapshot(nil), l.Append(record))
}

// Example 3, P6.5: a state in the records' place.
func TestSnapshot(t *testing.T) {
	d, l := begun(t, 1000)
	ok(t, l.Append([]byte("ab")), l.Sync())
	n := d.Count()
	ok(t, l.Snapshot([]byte("S")))
	tells(t, l, 2, 0, "S")
	has(t, d, generation(2, "", "S"))
	if b, _ := d.Read("wal-2"); string(b[8:]) != "\x01\x02S" || d.Count() != n+7 || told(d.Durable()) != told(there(d)) {
		t.Errorf("% x, %d operations", b, d.Count()-n)
	}
	ok(t, l.Append([]byte("cd")), l.Append([]byte("e")), l.Snapshot(nil))
	tells(t, l, 3, 0, "")
	ok(t, l.Append([]byte("f")), l.Sync())
	tells(t, l, 3, 0, "", "f")
	has(t, d, generation(3, "", "", "f"))
}

// Example 3: a power failure behind the Rename and ahead of the SyncDir.
func TestSnapshotHalfDone(t *testing.T) {
	d, l := begun(t, 1000)
	ok(t, l.Append([]byte("ab")), l.Sync())
	d.Arm(5)
	is(t, "Snapshot", l.Snapshot([]byte("S")), api.ErrDead)
	for dir, want := range []string{said("", "ab"), said("", "ab"), said("S"), said("S")} {
		if _, m := begun(t, 1000, d.Left(api.Crash{Dir: dir})...); saidOf(m) != want {
			t.Errorf("Dir %d: %s, not %s", dir, saidOf(m), want)
		}
	}
}

// P6.5: states of all lengths; ErrLong is the first of the errors.
func TestSnapshotTooLong(t *testing.T) {
	d, l := begun(t, roomy)
	long := make([]byte, api.MaxState+1)
	stays(t, d, l, "a long state", api.ErrLong, func() api.Errno { return l.Snapshot(long) })
	ok(t, l.Snapshot(long[1:]), l.Append([]byte("a")), l.Sync())
	tells(t, opened(t, d), 2, 0, string(long[1:]), "a")
	d, l = begun(t, 10)
	stays(t, d, l, "a long state without room", api.ErrLong, func() api.Errno { return l.Snapshot(long) })
	d.Arm(1)
	is(t, "Sync", l.Sync(), api.ErrDead)
	stays(t, d, l, "a long state behind a broken log", api.ErrLong, func() api.Errno { return l.Snapshot(long) })
	stays(t, d, l, "a state behind a broken log", api.ErrBroken, func() api.Errno { return l.Snapshot(long[1:]) })
}

// P6.5: no generation is behind the last one.
func TestSnapshotOfTheLastGeneration(t *testing.T) {
	d, l := begun(t, 1000, generation(api.MaxEpoch-1, "", "S"))
	ok(t, l.Snapshot([]byte("T")))
	tells(t, l, api.MaxEpoch, 0, "T")
	ok(t, l.Append([]byte("a")))
	stays(t, d, l, "one more", api.ErrFull, func() api.Errno { return l.Snapshot([]byte("U")) })
	ok(t, l.Append([]byte("b")), l.Sync())
	tells(t, opened(t, d), api.MaxEpoch, 0, "T", "a", "b")
}

// P6.5: the room for the new generation beside the old, and for a copy of it when the old is gone.
func TestSnapshotWithoutRoom(t *testing.T) {
	state := strings.Repeat("s", 20) // 30 bytes a generation
	for _, c := range []struct {
		old  string // has 10 bytes more
		free int
		want api.Errno
	}{
		{strings.Repeat("o", 40), 29, api.ErrFull},
		{strings.Repeat("o", 40), 30, api.OK},
		{strings.Repeat("o", 20), 30, api.OK},
		{strings.Repeat("o", 19), 30, api.ErrFull},
		{strings.Repeat("o", 19), 31, api.OK},
		{"", 49, api.ErrFull},
		{"", 50, api.OK},
		{"", 0, api.ErrFull},
	} {
		d, l := begun(t, 3+10+len(c.old)+c.free, generation(7, "", c.old), holds("other", "123"))
		if c.want == api.OK {
			ok(t, l.Snapshot([]byte(state)))
			tells(t, l, 8, 0, state)
			continue
		}
		stays(t, d, l, "Snapshot", c.want, func() api.Errno { return l.Snapshot([]byte(state)) })
		ok(t, l.Sync())
	}
	_, l := begun(t, 10+12, generation(127, "", "")) // the next one has 11 bytes: its number is longer
	ok(t, l.Snapshot(nil))
	d, l := begun(t, 10+11, generation(127, "", ""))
	stays(t, d, l, "a longer number", api.ErrFull, func() api.Errno { return l.Snapshot(nil) })
}

// P6.6: whichever operation has an error, that is the answer, the log is broken, and tells what it told.
func TestBroken(t *testing.T) {
	calls := map[string]func(l *wal.Log) api.Errno{
		"Append":   func(l *wal.Log) api.Errno { return l.Append([]byte("more")) },
		"Sync":     func(l *wal.Log) api.Errno { return l.Sync() },
		"Snapshot": func(l *wal.Log) api.Errno { return l.Snapshot([]byte("T")) },
	}
	for what, operations := range map[string]int{"Append": 1, "Sync": 1, "Snapshot": 7} {
		for n := 1; n <= operations; n++ {
			d, l := begun(t, 1000, generation(3, "torn", "S", "a"))
			ok(t, l.Append([]byte("b")))
			d.Arm(n)
			is(t, what, calls[what](l), api.ErrDead)
			isBroken(t, d, l, said("S", "a", "b")+" 4 2 4 true")
		}
		d, l := begun(t, 1000, generation(3, "torn", "S", "a"))
		d.Arm(operations + 1)
		is(t, what, calls[what](l), api.OK)
		if l.Broken() {
			t.Errorf("%s has broken the log", what)
		}
	}
}

// isBroken: the log tells what is said, and asks the disk nothing any more.
func isBroken(t *testing.T, d *disk.Disk, l *wal.Log, want string) {
	t.Helper()
	for range 2 {
		if s := lookOf(l); s != want {
			t.Errorf("the log tells %s, not %s", s, want)
		}
		stays(t, d, l, "Append", api.ErrBroken, func() api.Errno { return l.Append([]byte("more")) })
		stays(t, d, l, "Append of none", api.ErrBroken, func() api.Errno { return l.Append(nil) })
		stays(t, d, l, "Sync", api.ErrBroken, l.Sync)
		stays(t, d, l, "Snapshot", api.ErrBroken, func() api.Errno { return l.Snapshot(nil) })
		stays(t, d, l, "a long record", api.ErrLong, func() api.Errno { return l.Append(make([]byte, api.MaxRecord+1)) })
		stays(t, d, l, "a long state", api.ErrLong, func() api.Errno { return l.Snapshot(make([]byte, api.MaxState+1)) })
	}
}

// P6.6: a disk that has power breaks the log too, by a full directory.
func TestBrokenByAFullDirectory(t *testing.T) {
	d, l := begun(t, 1000, append(others(63), generation(3, "", "S", "a"))...)
	ok(t, l.Append([]byte("b")), l.Sync())
	n := d.Count()
	is(t, "Snapshot", l.Snapshot([]byte("T")), api.ErrFull)
	isBroken(t, d, l, said("S", "a", "b")+" 3 2 0 true")
	if d.Count() != n || d.Dead() {
		t.Error("the disk was asked")
	}
	tells(t, opened(t, d), 3, 0, "S", "a", "b")
}

// P6.6: and by its operations, at each of those that a Snapshot has.
func TestBrokenByTheOperations(t *testing.T) {
	for left := range 8 {
		d := worn(t, 2+left, generation(3, "", "S", "a"))
		l := opened(t, d)
		e := l.Snapshot([]byte("T"))
		if left == 7 {
			is(t, "Snapshot", e, api.OK)
			is(t, "Append", l.Append([]byte("b")), api.ErrFull)
			isBroken(t, d, l, said("T")+" 4 0 0 true")
			continue
		}
		is(t, "Snapshot", e, api.ErrFull)
		isBroken(t, d, l, said("S", "a")+" 3 1 0 true")
	}
	l := opened(t, worn(t, 2, generation(3, "", "S", "a")))
	is(t, "Sync", l.Sync(), api.ErrFull)
	if !l.Broken() {
		t.Error("Sync has not broken the log")
	}
}

// P6.7: the nil Log.
func TestNilLog(t *testing.T) {
	var l *wal.Log
	ok(t, l.Append(nil), l.Append([]byte("a")), l.Append(make([]byte, api.MaxRecord+1)), l.Sync(), l.Snapshot(nil), l.Snapshot([]byte("S")), l.Snapshot(make([]byte, api.MaxState+1)))
	if len(l.State()) != 0 || len(l.Records()) != 0 || l.Epoch() != 0 || l.Count() != 0 || l.Cut() != 0 || l.Broken() {
		t.Errorf("the nil log tells %s", lookOf(l))
	}
}
