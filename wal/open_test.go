package wal_test

import (
	"maps"
	"slices"
	"strings"
	"testing"

	"wicket/api"
	"wicket/disk"
	"wicket/frame"
	"wicket/wal"
)

// P6.1: ErrArg, if there is no disk, or a dead one.
func TestOpenOfNoDisk(t *testing.T) {
	refused(t, "no disk", nil, api.ErrArg)
	d := diskOf(t, 9)
	d.Arm(1)
	d.SyncDir()
	was := stateOf(d)
	refused(t, "a dead disk", d, api.ErrArg)
	if stateOf(d) != was {
		t.Error("a dead disk has changed")
	}
}

// Example 1, P6.1: a disk without files.
func TestOpenOfNoFiles(t *testing.T) {
	d, l := begun(t, 1000)
	tells(t, l, 1, 0, "")
	has(t, d, generation(1, "", ""))
	b, _ := d.Read("wal-1")
	if len(b) != 10 || b[0] != 1 || b[8] != 1 || b[9] != 1 || d.Count() != 5 {
		t.Errorf("% x, %d operations", b, d.Count())
	}
	if told(d.Durable()) != told(there(d)) {
		t.Error("the first generation is not durable")
	}
}

// opening makes ready an Open of a disk of these files.
func opening(t *testing.T, files ...api.File) func() (*disk.Disk, func() api.Errno) {
	return func() (*disk.Disk, func() api.Errno) {
		d := diskOf(t, 1000, files...)
		return d, func() api.Errno {
			l, e := wal.Open(d)
			if (l == nil) != (e != api.OK) {
				t.Fatalf("Open: %v beside %d", l, e)
			}
			return e
		}
	}
}

// P6.1: the steps, and none beside them, wherever the power fails.
func TestOpenTakesItsSteps(t *testing.T) {
	temp, other := holds("temp", "any bytes"), holds("wal-x", "other")
	first, torn := generation(1, "", ""), generation(10, "torn", "S", "a", "bc")
	takes(t, opening(t), making(first)...)
	takes(t, opening(t, other), making(first)...)
	takes(t, opening(t, temp), append([]operation{remove("temp")}, making(first)...)...)
	takes(t, opening(t, torn, other), append(making(generation(11, "", "S", "a", "bc")), remove("wal-10"), syncDir)...)
	takes(t, opening(t, generation(7, "", "S", "a")), sync("wal-7"), syncDir)
	takes(t, opening(t, temp, generation(7, "", "S", "a")), remove("temp"), sync("wal-7"), syncDir)
	takes(t, opening(t, generation(11, "", "S", "a"), generation(9, "", ""), torn, generation(2, "", ""), holds("wal-1", "")),
		sync("wal-11"), syncDir, remove("wal-1"), remove("wal-2"), remove("wal-9"), remove("wal-10"), syncDir)
	steps := slices.Concat([]operation{remove("temp")}, making(generation(11, "", "S", "a", "bc")), []operation{remove("wal-2"), remove("wal-9"), remove("wal-10"), syncDir})
	takes(t, opening(t, torn, generation(9, "torn", ""), generation(2, "", ""), temp), steps...)
}

// P6.1: of what was written and not synced, all that is told is safe behind an Open on the same disk.
func TestOpenSyncs(t *testing.T) {
	ready := func() (*disk.Disk, func() api.Errno) {
		d, l := begun(t, 1000)
		ok(t, l.Append([]byte("ab")), l.Append([]byte("cd")), d.Create("other"))
		return d, func() api.Errno {
			_, e := wal.Open(d)
			return e
		}
	}
	takes(t, ready, sync("wal-1"), syncDir)
	d, open := ready()
	ok(t, open())
	if told(d.Durable()) != told(there(d)) {
		t.Error("not all is durable")
	}
}

// P6.1, P6.2: what is there is told.
func TestOpenTells(t *testing.T) {
	for _, c := range []struct {
		number  int
		state   string
		records []string
	}{
		{1, "", nil},
		{1, "", []string{""}},
		{2, "state", nil},
		{127, "\x00\xff", []string{"", "a", "", sealed(2, 4, "a frame"), "e"}},
		{128, sealed(1, 128, ""), []string{"x"}},
		{1 << 40, "S", []string{"a", "b"}},
		{5, strings.Repeat("s", api.MaxState), []string{strings.Repeat("r", api.MaxRecord), ""}},
		{6, "many", strings.Split(strings.Repeat("r,", 300), ",")},
	} {
		d, l := begun(t, roomy, generation(c.number, "", c.state, c.records...))
		tells(t, l, c.number, 0, c.state, c.records...)
		has(t, d, generation(c.number, "", c.state, c.records...))
		if d.Count() != 2 {
			t.Errorf("%d operations", d.Count())
		}
	}
}

// Example 4, 6.1: which names are generations', and that other files are let be.
func TestNames(t *testing.T) {
	strange := []string{"wal-", "wal-0", "wal-01", "wal-00", "wal-1x", "wal-x1", "wal-1.", "wal-.1", "wal--1", "wal-1-", "wal-1_0", "wal-0x1", "wal-1e1", "wal1", "wal", "1", "xwal-1", "wal-wal-1", "wal_1", "temp1", "tem", "temp-",
		"wal-1099511627777", "wal-9223372036854775807", "wal-9223372036854775808", "wal-18446744073709551615", "wal-18446744073709551617", "wal-1000000000000000000000000001"}
	slices.Sort(strange)
	var files []api.File
	for _, n := range strange {
		files = append(files, holds(n, "other"))
	}
	d, l := begun(t, 10000, files...)
	tells(t, l, 1, 0, "")
	ok(t, l.Append([]byte("ab")), l.Snapshot([]byte("S")), l.Append([]byte("cd")), l.Sync())
	tells(t, opened(t, d), 2, 0, "S", "cd")
	files = append(files, generation(2, "", "S", "cd"))
	slices.SortFunc(files, func(a, b api.File) int { return strings.Compare(a.Name, b.Name) })
	has(t, d, files...)
}

// Example 4, 6.1: the generation with the greatest number counts, whatever the others are.
func TestNewest(t *testing.T) {
	for _, c := range []struct {
		newest int
		others []api.File
	}{
		{3, []api.File{generation(2, "", "old", "x")}},
		{3, []api.File{holds("wal-2", "rotten"), holds("wal-1", "")}},
		{10, []api.File{generation(9, "", "old"), generation(2, "", "old"), generation(1, "", "old")}},
		{1 << 40, []api.File{generation(1<<40-1, "torn", "old"), generation(99, "", "old")}},
	} {
		d, l := begun(t, 1000, append(c.others, generation(c.newest, "", "S", "a"))...)
		tells(t, l, c.newest, 0, "S", "a")
		has(t, d, generation(c.newest, "", "S", "a"))
		if told(d.Durable()) != told(there(d)) {
			t.Error("an older one may come back")
		}
	}
}

// rotten are the files of generation 3 that may not be so.
func rotten() map[string]string {
	good := body(3, "S", "a", "bc")
	turned := func(at int) string {
		b := []byte(good)
		b[at] ^= 4
		return string(b)
	}
	loaded := func(kind byte, load string) string {
		b, _ := frame.Seal(kind, []byte(load))
		return string(b)
	}
	top := sealed(1, 3, "S")
	list := map[string]string{
		"nothing":                   "",
		"one byte":                  good[:1],
		"the first not whole":       top[:len(top)-1],
		"the first's top":           top[:9],
		"the first's length turned": turned(0),
		"the first's sum turned":    turned(4),
		"the first's kind turned":   turned(8),
		"the first's number turned": turned(9),
		"the state turned":          turned(10),
		"a record's sum turned":     turned(len(top) + 4),
		"a record's kind turned":    turned(len(top) + 8),
		"a record turned":           turned(len(top) + 10),
		"the last byte turned":      turned(len(good) - 1),
		"a record first":            sealed(2, 3, "S"),
		"kind 3 first":              sealed(3, 3, "S"),
		"another generation's":      body(4, "S"),
		"no number first":           loaded(1, ""),
		"half a number first":       loaded(1, "\x83"),
		"a number with a zero":      loaded(1, "\x83\x00S"),
		"a number of 65 bits":       loaded(1, "\x83\x80\x80\x80\x80\x80\x80\x80\x80\x02"),
		"2^64 - 1 first":            sealed(1, 1<<64-1, "S"),
		"2^32 + 3 first":            sealed(1, 1<<32+3, "S"),
		"the state too long":        sealed(1, 3, strings.Repeat("s", api.MaxState+1)),
		"a state behind":            top + sealed(1, 3, "S"),
		"a state as record 1":       top + sealed(1, 1, "a"),
		"kind 3 behind":             top + sealed(3, 1, "a"),
		"kind 255 behind":           top + sealed(255, 1, "a"),
		"kind 0 behind":             top + zeroKind(),
		"record 0":                  top + sealed(2, 0, "a"),
		"record 2 first":            top + sealed(2, 2, "a"),
		"record 1 twice":            top + sealed(2, 1, "a") + sealed(2, 1, "a"),
		"record 2 not there":        top + sealed(2, 1, "a") + sealed(2, 3, "a"),
		"no number behind":          top + loaded(2, ""),
		"half a number behind":      top + loaded(2, "\x81"),
		"a longer number behind":    top + loaded(2, "\x81\x00"),
		"2^32 + 1 behind":           top + sealed(2, 1<<32+1, "a"),
		"a record too long":         top + sealed(2, 1, strings.Repeat("r", api.MaxRecord+1)),
		"a load too long":           good + "\x01\x00\x20\x00sum?\x02",
		"nine bytes of ones":        good + strings.Repeat("\xff", 9),
		"nine bytes of zeros":       good + strings.Repeat("\x00", 9),
	}
	for what, b := range maps.Clone(list) {
		if strings.Contains(what, "behind") || strings.Contains(what, "record") {
			list[what+", and torn"] = b + "torn"
		}
	}
	return list
}

// zeroKind is a frame of kind 0 whose sum is right.
func zeroKind() string {
	sum := frame.Crc([]byte{2, 0, 0, 0, 0, 1, 'a'})
	return string([]byte{2, 0, 0, 0, byte(sum), byte(sum >> 8), byte(sum >> 16), byte(sum >> 24), 0, 1, 'a'})
}

// Example 4, P6.1: ErrRot of what may not be so; nothing has changed but that temp is gone.
func TestRot(t *testing.T) {
	for what, b := range rotten() {
		files := []api.File{generation(2, "", "older"), holds("wal-3", b)}
		d := diskOf(t, roomy, files...)
		refused(t, what, d, api.ErrRot)
		has(t, d, files...)
		if d.Count() != 0 {
			t.Errorf("%s: %d operations", what, d.Count())
		}
		d = diskOf(t, roomy, append(files, holds("temp", "x"))...)
		refused(t, what, d, api.ErrRot)
		has(t, d, files...)
		if d.Count() != 1 {
			t.Errorf("%s, with temp: %d operations", what, d.Count())
		}
	}
}

// P6.1: every bit of a file counts: turned, the file is rotten, or its end is torn (where a length says more than there is).
func TestTurnedBits(t *testing.T) {
	good := body(3, "State", "a", "", "bcd")
	for bit := range 8 * len(good) {
		b := []byte(good)
		b[bit/8] ^= 1 << (bit % 8)
		l, e := wal.Open(diskOf(t, 1000, api.File{Name: "wal-3", Bytes: b}))
		if e == api.ErrRot && l == nil {
			continue
		}
		if e != api.OK || l.Cut() == 0 || string(l.State()) != "State" || !strings.HasPrefix(said("State", "a", "", "bcd"), saidOf(l)) || l.Count() == 3 {
			t.Errorf("bit %d: %d", bit, e)
		}
	}
}

// P6.1, P6.2: a torn tail, whatever its bytes say, is cut.
func TestTornTail(t *testing.T) {
	more := sealed(2, 3, "a record that is torn")
	tails := []string{"\xff\xff\xff\xff\xff\xff\xff\xff", "\x00", "\x00\x00\x00\x00\x00\x00\x00\x00", "\x00\x00\x20\x00anysum" + "\x02" + strings.Repeat("t", 2000),
		sealed(1, 3, "another state")[:15], sealed(9, 77, "another kind")[:15], "\x09\x00\x00\x00sum?\x00", sealed(2, 9, "record 9")[:16], "\xff\xff\x00\x00sum?\x00\xff\xff\xff\xff"}
	for n := 1; n < len(more); n++ {
		tails = append(tails, more[:n])
	}
	for _, tail := range tails {
		d, l := begun(t, roomy, generation(3, tail, "S", "a", "bc"), generation(1, "", ""))
		tells(t, l, 4, len(tail), "S", "a", "bc")
		has(t, d, generation(4, "", "S", "a", "bc"))
		if told(d.Durable()) != told(there(d)) || d.Count() != 8 {
			t.Errorf("%q: not durable, or %d operations", tail, d.Count())
		}
		tells(t, opened(t, d), 4, 0, "S", "a", "bc")
		ok(t, l.Append([]byte("def")), l.Snapshot([]byte("T")))
		tells(t, l, 5, len(tail), "T")
	}
	_, l := begun(t, roomy, generation(9, "x", strings.Repeat("s", api.MaxState), strings.Repeat("r", api.MaxRecord)))
	tells(t, l, 10, 1, strings.Repeat("s", api.MaxState), strings.Repeat("r", api.MaxRecord))
}

// P6.1: ErrFull of a torn tail in the last generation; the last one itself is as good as others.
func TestLastGeneration(t *testing.T) {
	last := generation(api.MaxEpoch, "", "S", "a")
	d := diskOf(t, 1000, generation(api.MaxEpoch, "torn", "S", "a"), generation(5, "", ""))
	was := stateOf(d)
	refused(t, "the last, torn", d, api.ErrFull)
	if stateOf(d) != was {
		t.Error("something has changed")
	}
	refused(t, "the last, torn and rotten", diskOf(t, 1000, holds(last.Name, body(api.MaxEpoch-1, "S")+"torn")), api.ErrRot)
	_, l := begun(t, 1000, last)
	tells(t, l, api.MaxEpoch, 0, "S", "a")
	_, l = begun(t, 1000, generation(api.MaxEpoch-1, "torn", "S", "a"))
	tells(t, l, api.MaxEpoch, 4, "S", "a")
}

// Example 5, P6.1: the room that a generation needs when it is made, behind temp's end.
func TestOpenWithoutRoom(t *testing.T) {
	for _, c := range []struct {
		what  string
		room  int
		files []api.File
		want  api.Errno
	}{
		{"9", 9, nil, api.ErrFull},
		{"10", 10, nil, api.OK},
		{"0", 0, nil, api.ErrFull},
		{"others", 14, []api.File{holds("other", "12345")}, api.ErrFull},
		{"others and 10", 15, []api.File{holds("other", "12345")}, api.OK},
		{"temp's", 10, []api.File{holds("temp", "1234567890")}, api.OK},
		{"temp's and less", 9, []api.File{holds("temp", "123456789")}, api.ErrFull},
		{"whole", 11, []api.File{generation(3, "", "S")}, api.OK},
		{"torn", 11 + 4 + 11, []api.File{generation(3, "torn", "S")}, api.OK},
		{"torn and less", 11 + 4 + 10, []api.File{generation(3, "torn", "S")}, api.ErrFull},
		{"torn, with temp", 11 + 4 + 11, []api.File{generation(3, "torn", "S"), holds("temp", "1234567")}, api.OK},
		{"torn, a longer number", 11 + 1 + 12, []api.File{generation(127, "t", "S")}, api.OK},
		{"torn, a longer number and less", 11 + 1 + 11, []api.File{generation(127, "t", "S")}, api.ErrFull},
		{"torn, with older", 11 + 4 + 10 + 11, []api.File{generation(3, "torn", "S"), generation(2, "", "")}, api.OK},
		{"torn, with older and less", 11 + 4 + 10 + 10, []api.File{generation(3, "torn", "S"), generation(2, "", "")}, api.ErrFull},
	} {
		d := diskOf(t, c.room, c.files...)
		if l, e := wal.Open(d); e != c.want || (l == nil) != (e != api.OK) {
			t.Errorf("%s: Open: %d, not %d", c.what, e, c.want)
		}
		if c.want == api.ErrFull {
			kept := slices.DeleteFunc(c.files, func(f api.File) bool { return f.Name == "temp" })
			slices.SortFunc(kept, func(a, b api.File) int { return strings.Compare(a.Name, b.Name) })
			has(t, d, kept...)
		}
	}
}

// P6.1: errors of the disk are answered as they are: MaxFiles, MaxOps.
func TestOpenAnswersTheDisksErrors(t *testing.T) {
	refused(t, "a full directory", diskOf(t, 1000, others(64)...), api.ErrFull)
	refused(t, "a full directory, torn", diskOf(t, 1000, append(others(63), generation(1, "torn", ""))...), api.ErrFull)
	_, l := begun(t, 1000, append(others(63), holds("temp", ""))...)
	tells(t, l, 1, 0, "")
	_, l = begun(t, 1000, append(others(63), generation(1, "", "S"))...)
	tells(t, l, 1, 0, "S")
	for left := range 6 {
		d := worn(t, left)
		l, e := wal.Open(d)
		if (e == api.OK) != (left >= 5) || (e == api.ErrFull) != (l == nil) {
			t.Errorf("%d operations left: %d", left, e)
		}
	}
	for left := range 3 {
		d := worn(t, left, generation(1, "", "S"))
		l, e := wal.Open(d)
		if (e == api.OK) != (left >= 2) || (e == api.ErrFull) != (l == nil) {
			t.Errorf("%d operations left, of two: %d", left, e)
		}
	}
	refused(t, "no operation left for temp", worn(t, 0, holds("temp", "")), api.ErrFull)
}

// P6.2: to look changes nothing.
func TestLooksChangeNothing(t *testing.T) {
	d, l := begun(t, 1000, generation(3, "torn", "S", "a"))
	ok(t, l.Append([]byte("bc")))
	was := stateOf(d)
	for range 3 {
		if s := lookOf(l); s != said("S", "a", "bc")+" 4 2 4 false" {
			t.Errorf("the log tells %s", s)
		}
	}
	if stateOf(d) != was {
		t.Error("the disk has changed")
	}
}
