package disk_test

import (
	"math"
	"testing"

	"wicket/api"
	"wicket/disk"
)

// P5.7: they tell what is there, rising, and change nothing.
func TestLooking(t *testing.T) {
	d := made(t, 50, holds("b", "123"), holds("a.b", "xyz"), holds("a", ""), holds("a-b", "w"), holds("_", "5"), holds("0", ""))
	was := state(d)
	if s := now(t, d); s != "0= _=5 a= a-b=w a.b=xyz b=123" {
		l := d.List()
		t.Errorf("%q, %q", s, l)
	}
	if l := d.List(); len(l) != 6 || l[0] != "0" || l[1] != "_" || l[2] != "a" || l[3] != "a-b" || l[4] != "a.b" || l[5] != "b" {
		t.Errorf("List: %q", l)
	}
	for _, name := range []string{"c", "", "A", "a.", "a.bc"} {
		if b, e := d.Read(name); b != nil || e != api.ErrNone {
			t.Errorf("Read(%q): %q %d", name, b, e)
		}
	}
	if b, e := d.Read("a"); len(b) != 0 || e != api.OK {
		t.Errorf("Read of a file without bytes: %q %d", b, e)
	}
	if d.Free() != 42 || d.Count() != 0 || state(d) != was {
		t.Errorf("Free %d, Count %d", d.Free(), d.Count())
	}
	d.Arm(1)
	state(d)
	if d.Dead() {
		t.Error("looking is taken for an operation")
	}
}

// P5.7: Count counts the operations, and them alone.
func TestCount(t *testing.T) {
	d := made(t, 10)
	for i, e := range []api.Errno{d.Create("a"), d.Append("a", nil), d.Append("a", []byte("x")), d.Sync("a"), d.Rename("a", "a"), d.Rename("a", "b"), d.SyncDir(), d.SyncDir(), d.Remove("b")} {
		is(t, "operation "+string(rune('1'+i)), e, api.OK)
	}
	if d.Count() != 9 {
		t.Errorf("Count: %d", d.Count())
	}
	d.Create("")
	d.Append("a", nil)
	d.Sync("a")
	d.Rename("a", "b")
	d.Remove("a")
	if d.Count() != 9 {
		t.Errorf("Count behind refused calls: %d", d.Count())
	}
}

// P5.8, and the chapter's example 5.
func TestArmExample(t *testing.T) {
	d := made(t, 100)
	ok(t, d.Create("a"), d.Append("a", []byte("xyz")))
	d.Arm(2)
	is(t, "Sync", d.Sync("a"), api.OK)
	is(t, "Create", d.Create("a"), api.ErrThere)
	is(t, "Sync", d.Sync("a"), api.ErrDead)
	if b, e := d.Read("a"); b != nil || e != api.ErrDead || !d.Dead() {
		t.Errorf("Read: %q %d, Dead %v", b, e, d.Dead())
	}
	leaves(t, d, crash(0), "")
	leaves(t, d, crash(1), "a=xyz")
}

// P5.8: the n-th operation from Arm on is not done, whichever it is, and those ahead of it are.
func TestArmCounts(t *testing.T) {
	steps := []func(d *disk.Disk) api.Errno{
		func(d *disk.Disk) api.Errno { return d.Create("t") },
		func(d *disk.Disk) api.Errno { return d.Append("t", []byte("new")) },
		func(d *disk.Disk) api.Errno { return d.Append("t", nil) },
		func(d *disk.Disk) api.Errno { return d.Sync("t") },
		func(d *disk.Disk) api.Errno { return d.Rename("t", "t") },
		func(d *disk.Disk) api.Errno { return d.Rename("t", "a") },
		func(d *disk.Disk) api.Errno { return d.SyncDir() },
		func(d *disk.Disk) api.Errno { return d.Remove("a") },
	}
	for ahead := range 4 {
		for n := 1; n <= len(steps); n++ {
			armed, twin := made(t, 100, holds("a", "old")), made(t, 100, holds("a", "old"))
			for range ahead {
				ok(t, armed.Sync("a"), twin.Sync("a"))
			}
			armed.Arm(n)
			for i, step := range steps {
				want := api.OK
				if i >= n-1 {
					want = api.ErrDead
				} else {
					ok(t, step(twin))
				}
				is(t, "a refused call", armed.Create("A"), map[bool]api.Errno{false: api.ErrFile, true: api.ErrDead}[armed.Dead()])
				is(t, "a step", step(armed), want)
				if armed.Dead() != (want == api.ErrDead) {
					t.Fatalf("Arm(%d): Dead %v at step %d", n, armed.Dead(), i)
				}
			}
			for dir := range 4 {
				for tail := range 4 {
					leaves(t, armed, crash(dir, 0, tail), told(twin.Left(crash(dir, 0, tail))))
				}
			}
			if armed.Count() != ahead+n-1 {
				t.Errorf("Arm(%d): Count %d", n, armed.Count())
			}
		}
	}
}

// P5.8: a refused call does not count, whatever its error.
func TestArmRefusedCalls(t *testing.T) {
	d := full(t)
	d.Arm(1)
	for range 3 {
		is(t, "Create", d.Create("A"), api.ErrFile)
		is(t, "Create", d.Create("f0"), api.ErrThere)
		is(t, "Create", d.Create("more"), api.ErrFull)
		is(t, "Append", d.Append("more", nil), api.ErrNone)
		is(t, "Append", d.Append("f0", make([]byte, 101)), api.ErrFull)
		is(t, "Sync", d.Sync("more"), api.ErrNone)
		is(t, "Rename", d.Rename("more", "f0"), api.ErrNone)
		is(t, "Rename", d.Rename("f0", "A"), api.ErrFile)
		is(t, "Remove", d.Remove("more"), api.ErrNone)
	}
	if d.Dead() || d.Count() != 0 {
		t.Errorf("Dead %v, Count %d", d.Dead(), d.Count())
	}
	is(t, "SyncDir", d.SyncDir(), api.ErrDead)
}

// P5.8: the last Arm counts; with n below 1 the power does not fail any more.
func TestArmAgain(t *testing.T) {
	d := made(t, 100, holds("a", "xyz"))
	for _, n := range []int{0, -1, math.MinInt} {
		d.Arm(n)
		ok(t, d.Sync("a"), d.Sync("a"))
		d.Arm(1)
		d.Arm(n)
		ok(t, d.Sync("a"), d.Sync("a"))
		d.Arm(2)
		ok(t, d.Sync("a"))
		d.Arm(n)
		ok(t, d.Sync("a"), d.Sync("a"))
	}
	d.Arm(math.MaxInt)
	ok(t, d.Sync("a"), d.Sync("a"))
	d.Arm(1)
	d.Arm(3)
	ok(t, d.Sync("a"), d.Sync("a"))
	is(t, "the third", d.Sync("a"), api.ErrDead)
}

// P5.8, P5.7: on a dead disk every call answers ErrDead first, Arm does nothing, List and Free tell none and 0.
func TestDead(t *testing.T) {
	d := made(t, 100, holds("a", "xyz"))
	ok(t, d.Create("b"), d.Append("b", []byte("123")))
	if d.Dead() {
		t.Error("Dead while there is power")
	}
	d.Arm(1)
	if d.Dead() || d.Free() != 94 || len(d.List()) != 2 {
		t.Error("Dead ahead of the operation")
	}
	is(t, "SyncDir", d.SyncDir(), api.ErrDead)
	for _, n := range []int{0, -1, 1, 5, math.MaxInt} {
		d.Arm(n)
		for what, e := range map[string]api.Errno{
			"Create": d.Create("c"), "Create of no name": d.Create("C"), "Create of what is there": d.Create("a"),
			"Append": d.Append("a", []byte("w")), "Append to none": d.Append("c", nil), "Append of much": d.Append("a", make([]byte, 101)),
			"Sync": d.Sync("b"), "Sync of none": d.Sync("c"), "SyncDir": d.SyncDir(),
			"Rename": d.Rename("a", "c"), "Rename of none": d.Rename("c", "a"), "Rename to no name": d.Rename("a", "A"), "Rename to itself": d.Rename("a", "a"),
			"Remove": d.Remove("a"), "Remove of none": d.Remove("c"),
		} {
			is(t, what, e, api.ErrDead)
		}
		for _, name := range []string{"a", "b", "c", "A"} {
			if b, e := d.Read(name); b != nil || e != api.ErrDead {
				t.Errorf("Read(%q): %q %d", name, b, e)
			}
		}
		if len(d.List()) != 0 || d.Free() != 0 || d.Count() != 2 || !d.Dead() {
			t.Errorf("List %q, Free %d, Count %d, Dead %v", d.List(), d.Free(), d.Count(), d.Dead())
		}
		leaves(t, d, crash(0), "a=xyz")
		leaves(t, d, crash(1, 0, 2), "a=xyz b=12")
		if s := told(d.Durable()); s != "a=xyz" {
			t.Errorf("Durable: %q", s)
		}
	}
	dead := worn(t)
	dead.Arm(1)
	is(t, "Sync", dead.Sync("a"), api.ErrFull)
	full := full(t)
	full.Arm(1)
	is(t, "SyncDir", full.SyncDir(), api.ErrDead)
	is(t, "Create on a dead disk that is full", full.Create("more"), api.ErrDead)
}

// P5.9: how many changes and bytes are left, at and beyond the borders.
func TestLeftBorders(t *testing.T) {
	d := made(t, 100, holds("a", "xyz"), holds("b", ""))
	ok(t, d.Append("a", []byte("wvu")), d.Append("b", []byte("12")), d.Create("c"), d.Remove("a"))
	for _, x := range []struct {
		c    api.Crash
		want string
	}{
		{api.Crash{}, "a=xyz b="},
		{crash(math.MinInt, math.MinInt, math.MinInt), "a=xyz b="},
		{crash(-1, -1, 1), "a=xyz b=1"},
		{crash(0, 0), "a=xyz b="},
		{crash(0, 1), "a=xyzw b="},
		{crash(0, 2, 1), "a=xyzwv b=1"},
		{crash(0, 3, 2), "a=xyzwvu b=12"},
		{crash(0, 4, 3), "a=xyzwvu b=12"},
		{crash(0, math.MaxInt, math.MaxInt), "a=xyzwvu b=12"},
		{crash(1, 1, 1, 1, 1), "a=xyzw b=1 c="},
		{crash(2, 1, 1), "b=1 c="},
		{crash(3, 1, 1), "b=1 c="},
		{crash(math.MaxInt), "b= c="},
	} {
		leaves(t, d, x.c, x.want)
	}
	if told(d.Durable()) != told(d.Left(api.Crash{})) {
		t.Errorf("Durable: %q", told(d.Durable()))
	}
}

// P5.9: a directory names each file by the name that it had then, with the bytes and the syncs of now.
func TestLeftOfManyChanges(t *testing.T) {
	d := made(t, 100, holds("a", "1"), holds("b", "2"))
	ok(t, d.Rename("a", "c"), d.Rename("b", "a"), d.Rename("c", "b"), d.Append("a", []byte("+")), d.Append("b", []byte("-")), d.Sync("b"))
	leaves(t, d, crash(0), "a=1- b=2")
	leaves(t, d, crash(1, 0, 1), "b=2+ c=1-")
	leaves(t, d, crash(2), "a=2 c=1-")
	leaves(t, d, crash(3, 0, 1), "a=2+ b=1-")
	ok(t, d.Remove("a"), d.Create("a"), d.Append("a", []byte("3")), d.Rename("b", "a"), d.Remove("a"))
	leaves(t, d, crash(3, 0, 1, 1), "a=2+ b=1-")
	leaves(t, d, crash(4, 0, 1, 1), "b=1-")
	leaves(t, d, crash(5, 0, 1, 1), "a=3 b=1-")
	leaves(t, d, crash(6, 0, 1, 1), "a=1-")
	leaves(t, d, crash(7, 0, 1, 1), "")
}

// P5.9: what is left comes rising by name.
func TestLeftIsRising(t *testing.T) {
	d := made(t, 100, holds("b", ""), holds("a.b", ""), holds("a", ""), holds("_", ""))
	ok(t, d.Create("a-b"), d.Create("0"), d.Rename("b", "z"), d.Create("b"))
	leaves(t, d, crash(4), "0= _= a= a-b= a.b= b= z=")
}

// P5.10.
func TestNilDisk(t *testing.T) {
	var d *disk.Disk
	d.Arm(1)
	for what, e := range map[string]api.Errno{
		"Create": d.Create("a"), "Create of no name": d.Create("A"),
		"Append": d.Append("a", []byte("x")), "Append of much": d.Append("a", make([]byte, api.MaxFile+1)),
		"Sync": d.Sync("a"), "Rename": d.Rename("a", "b"), "Rename to no name": d.Rename("a", "A"), "Remove": d.Remove("a"), "SyncDir": d.SyncDir(),
	} {
		is(t, what, e, api.OK)
	}
	if b, e := d.Read("a"); b != nil || e != api.OK {
		t.Errorf("Read: %q %d", b, e)
	}
	if len(d.List()) != 0 || len(d.Left(all())) != 0 || len(d.Durable()) != 0 || d.Free() != 0 || d.Count() != 0 || d.Dead() {
		t.Error("a nil disk tells something")
	}
}
