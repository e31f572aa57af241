package disk_test

import (
	"bytes"
	"math"
	"strings"
	"testing"

	"wicket/api"
	"wicket/disk"
)

// The chapter's examples 1 to 4, one behind the other.
func TestExamples(t *testing.T) {
	d := made(t, 100)
	ok(t, d.Create("a"), d.Append("a", []byte("xyz")))
	if b, e := d.Read("a"); string(b) != "xyz" || e != api.OK {
		t.Errorf("Read: %q %d", b, e)
	}
	if s := told(d.Durable()); s != "" {
		t.Errorf("Durable: %q", s)
	}
	leaves(t, d, crash(1), "a=")
	leaves(t, d, crash(1, 2), "a=xy")
	leaves(t, d, crash(0, 3), "")

	ok(t, d.Sync("a"), d.SyncDir())
	if s := told(d.Durable()); s != "a=xyz" {
		t.Errorf("Durable: %q", s)
	}
	ok(t, d.Append("a", []byte("w")))
	leaves(t, d, api.Crash{}, "a=xyz")
	leaves(t, d, crash(0, 9), "a=xyzw")

	ok(t, d.Create("t"), d.Append("t", []byte("new")), d.Sync("t"), d.Rename("t", "a"))
	leaves(t, d, api.Crash{}, "a=xyz")
	leaves(t, d, crash(1), "a=xyz t=new")
	leaves(t, d, crash(2), "a=new")

	stays(t, d, "Create A", api.ErrFile, func() api.Errno { return d.Create("A") })
	stays(t, d, "Create a", api.ErrThere, func() api.Errno { return d.Create("a") })
	stays(t, d, "Append b", api.ErrNone, func() api.Errno { return d.Append("b", []byte("x")) })
	stays(t, d, "Append of 101", api.ErrFull, func() api.Errno { return d.Append("a", make([]byte, 101)) })
	stays(t, d, "Rename b A", api.ErrNone, func() api.Errno { return d.Rename("b", "A") })
	stays(t, d, "Rename a A", api.ErrFile, func() api.Errno { return d.Rename("a", "A") })
}

// P5.2: a new file without bytes; a change of the directory.
func TestCreate(t *testing.T) {
	d := made(t, 3, holds("a", "xyz"))
	is(t, "Create on a disk without room", d.Create("b"), api.OK)
	if s := now(t, d); s != "a=xyz b=" || d.Count() != 1 || d.Free() != 0 {
		t.Errorf("%q, Count %d, Free %d", s, d.Count(), d.Free())
	}
	leaves(t, d, crash(0), "a=xyz")
	leaves(t, d, crash(1), "a=xyz b=")
	stays(t, d, "Create of what is there", api.ErrThere, func() api.Errno { return d.Create("b") })
	stays(t, d, "Create of what New laid there", api.ErrThere, func() api.Errno { return d.Create("a") })
	stays(t, d, "Create of no name", api.ErrFile, func() api.Errno { return d.Create("") })
}

// P5.2: at MaxFiles files, ErrFull behind the other errors; room comes back by Remove and by Rename.
func TestCreateFull(t *testing.T) {
	d := full(t)
	stays(t, d, "Create", api.ErrFull, func() api.Errno { return d.Create("more") })
	stays(t, d, "Create of no name", api.ErrFile, func() api.Errno { return d.Create("More") })
	stays(t, d, "Create of what is there", api.ErrThere, func() api.Errno { return d.Create("f0") })
	is(t, "Rename in a full directory", d.Rename("f0", "g0"), api.OK)
	is(t, "Create behind a Rename to a new name", d.Create("f0"), api.ErrFull)
	is(t, "Rename onto another", d.Rename("g0", "f1"), api.OK)
	is(t, "Create behind a Rename onto another", d.Create("f0"), api.OK)
	is(t, "Create in a full directory", d.Create("g0"), api.ErrFull)
	is(t, "Remove", d.Remove("f9"), api.OK)
	is(t, "Create behind a Remove", d.Create("g0"), api.OK)
	is(t, "one more", d.Create("f9"), api.ErrFull)
	if len(d.List()) != api.MaxFiles || len(d.Left(all())) != api.MaxFiles {
		t.Errorf("%d files", len(d.List()))
	}
}

// P5.2, 5.1: a number is never used twice, and a Create that is refused uses none.
func TestNumbersAreNotUsedTwice(t *testing.T) {
	d := made(t, 100, holds("a", ""))
	ok(t, d.Remove("a"), d.Create("a"), d.Remove("a"), d.Create("a"))
	is(t, "Create of what is there", d.Create("a"), api.ErrThere)
	is(t, "Create of no name", d.Create("A"), api.ErrFile)
	ok(t, d.Create("b"), d.Rename("a", "c"), d.SyncDir())
	ok(t, d.Append("c", []byte("xyz")), d.Append("b", []byte("xyz")))
	leaves(t, d, crash(0, 3, 3), "b= c=")
	leaves(t, d, crash(0, 0, 0, 2), "b= c=xy")
	leaves(t, d, crash(0, 0, 0, 0, 1), "b=x c=")
	d.Arm(1)
	is(t, "Create without power", d.Create("e"), api.ErrDead)

	d = full(t)
	is(t, "Create in a full directory", d.Create("b"), api.ErrFull)
	ok(t, d.Remove("f0"), d.Create("b"), d.Append("b", []byte("xyz")))
	tails := make([]int, api.MaxFiles+1)
	tails[api.MaxFiles] = 2
	if l := d.Left(crash(2, tails...)); told(l[:1]) != "b=xy" {
		t.Errorf("the file behind the refused one: %q", told(l[:1]))
	}
}

// P5.3: bytes stand at the file's end, in its tail.
func TestAppend(t *testing.T) {
	d := made(t, 10, holds("a", "xyz"), holds("b", "12"))
	ok(t, d.Append("a", []byte("w")), d.Append("b", []byte("3")), d.Append("a", nil), d.Append("a", []byte("vu")))
	if s := now(t, d); s != "a=xyzwvu b=123" || d.Count() != 4 || d.Free() != 1 {
		t.Errorf("%q, Count %d, Free %d", s, d.Count(), d.Free())
	}
	leaves(t, d, crash(0), "a=xyz b=12")
	leaves(t, d, crash(0, 2), "a=xyzwv b=12")
	stays(t, d, "Append of 2", api.ErrFull, func() api.Errno { return d.Append("b", []byte("45")) })
	stays(t, d, "Append to none", api.ErrNone, func() api.Errno { return d.Append("c", nil) })
	stays(t, d, "Append of much to none", api.ErrNone, func() api.Errno { return d.Append("c", make([]byte, 99)) })
	stays(t, d, "Append to no name", api.ErrNone, func() api.Errno { return d.Append("A", nil) })
	is(t, "Append of 1", d.Append("b", []byte("4")), api.OK)
	is(t, "Append of nothing to a full disk", d.Append("b", []byte{}), api.OK)
	is(t, "Append of 1 to a full disk", d.Append("b", []byte("5")), api.ErrFull)
	if d.Free() != 0 || d.Count() != 6 {
		t.Errorf("Free %d, Count %d", d.Free(), d.Count())
	}
}

// P5.3: the limit of a file's bytes, whatever the room.
func TestAppendMaxFile(t *testing.T) {
	for _, room := range []int{2 * api.MaxFile, math.MaxInt} {
		d := made(t, room, holds("a", "xyz"), holds("b", "12"))
		is(t, "one too many", d.Append("a", make([]byte, api.MaxFile-2)), api.ErrFull)
		is(t, "as many as may be", d.Append("a", make([]byte, api.MaxFile-3)), api.OK)
		is(t, "one more", d.Append("a", []byte("x")), api.ErrFull)
		is(t, "none more", d.Append("a", nil), api.OK)
		is(t, "one more elsewhere", d.Append("b", []byte("3")), api.OK)
		if b, e := d.Read("a"); len(b) != api.MaxFile || e != api.OK || d.Free() != room-api.MaxFile-3 {
			t.Errorf("%d bytes, %d, Free %d", len(b), e, d.Free())
		}
	}
}

// P5.3, 5.1: the room is for the files of the directory: those that are in it no more have none of it.
func TestRoomComesBack(t *testing.T) {
	d := made(t, 6, holds("a", "xyz"), holds("b", "123"))
	is(t, "full", d.Append("a", []byte("w")), api.ErrFull)
	ok(t, d.Remove("b"))
	is(t, "behind a Remove", d.Append("a", []byte("wvu")), api.OK)
	is(t, "full again", d.Append("a", []byte("t")), api.ErrFull)
	ok(t, d.Create("c"), d.Rename("c", "a"))
	if d.Free() != 6 {
		t.Errorf("Free behind a Rename onto: %d", d.Free())
	}
	is(t, "behind a Rename onto", d.Append("a", []byte("012345")), api.OK)
	if b, e := d.Read("a"); string(b) != "012345" || e != api.OK || d.Free() != 0 {
		t.Errorf("%q %d", b, e)
	}
}

// P5.4: all bytes of the one file are synced, whatever name it has and had.
func TestSync(t *testing.T) {
	d := made(t, 100, holds("a", "x"), holds("b", "1"))
	ok(t, d.Append("a", []byte("yz")), d.Append("b", []byte("23")), d.Sync("a"))
	leaves(t, d, crash(0), "a=xyz b=1")
	ok(t, d.Append("a", []byte("w")))
	leaves(t, d, crash(0), "a=xyz b=1")
	leaves(t, d, crash(0, 1, 1), "a=xyzw b=12")
	ok(t, d.Rename("a", "c"), d.Sync("c"))
	leaves(t, d, crash(0), "a=xyzw b=1")
	leaves(t, d, crash(1), "b=1 c=xyzw")
	if d.Count() != 6 {
		t.Errorf("Count: %d", d.Count())
	}
	stays(t, d, "Sync of none", api.ErrNone, func() api.Errno { return d.Sync("a") })
	stays(t, d, "Sync of no name", api.ErrNone, func() api.Errno { return d.Sync("A") })
}

// P5.5: a file has another name; one that had it is there no more.
func TestRename(t *testing.T) {
	d := made(t, 100, holds("a", "xyz"), holds("b", "123"), holds("c", ""))
	ok(t, d.Append("a", []byte("w")), d.Rename("a", "d"))
	if s := now(t, d); s != "b=123 c= d=xyzw" {
		t.Errorf("behind a Rename to a new name: %q", s)
	}
	ok(t, d.Rename("d", "b"))
	if s := now(t, d); s != "b=xyzw c=" || d.Count() != 3 {
		t.Errorf("behind a Rename onto another: %q", s)
	}
	leaves(t, d, crash(0, 1), "a=xyzw b=123 c=")
	leaves(t, d, crash(1, 1), "b=123 c= d=xyzw")
	leaves(t, d, crash(2, 1), "b=xyzw c=")
	stays(t, d, "Rename of none", api.ErrNone, func() api.Errno { return d.Rename("a", "b") })
	stays(t, d, "Rename of none to itself", api.ErrNone, func() api.Errno { return d.Rename("a", "a") })
	stays(t, d, "Rename of none to no name", api.ErrNone, func() api.Errno { return d.Rename("a", "A") })
	stays(t, d, "Rename of no name to itself", api.ErrNone, func() api.Errno { return d.Rename("A", "A") })
	stays(t, d, "Rename to no name", api.ErrFile, func() api.Errno { return d.Rename("b", "") })
	stays(t, d, "Rename to a long name", api.ErrFile, func() api.Errno { return d.Rename("b", strings.Repeat("b", 33)) })
}

// P5.5: with from and to the same it is an operation, and no change.
func TestRenameToItself(t *testing.T) {
	d := made(t, 100, holds("a", "xyz"))
	ok(t, d.Create("b"), d.Rename("b", "b"), d.Rename("a", "a"), d.Append("a", []byte("w")), d.Remove("b"))
	if s := now(t, d); s != "a=xyzw" || d.Count() != 5 {
		t.Errorf("%q, Count %d", s, d.Count())
	}
	leaves(t, d, crash(0, 1), "a=xyzw")
	leaves(t, d, crash(1), "a=xyz b=")
	leaves(t, d, crash(2), "a=xyz")
	d.Arm(1)
	is(t, "Rename to itself without power", d.Rename("a", "a"), api.ErrDead)
}

// P5.5: a name is there no more; a change of the directory.
func TestRemove(t *testing.T) {
	d := made(t, 100, holds("a", "xyz"), holds("b", "123"))
	ok(t, d.Remove("a"))
	if s := now(t, d); s != "b=123" || d.Count() != 1 || d.Free() != 97 {
		t.Errorf("%q, Count %d, Free %d", s, d.Count(), d.Free())
	}
	leaves(t, d, crash(0), "a=xyz b=123")
	leaves(t, d, crash(1), "b=123")
	stays(t, d, "Remove of none", api.ErrNone, func() api.Errno { return d.Remove("a") })
	stays(t, d, "Remove of no name", api.ErrNone, func() api.Errno { return d.Remove("") })
	if b, e := d.Read("a"); b != nil || e != api.ErrNone {
		t.Errorf("Read: %q %d", b, e)
	}
	ok(t, d.Create("a"))
	leaves(t, d, all(), "a= b=123")
}

// P5.6: the changes so far are durable, and none is kept; the files' tails are as they were.
func TestSyncDir(t *testing.T) {
	d := made(t, 100, holds("a", "xyz"), holds("b", "123"))
	is(t, "SyncDir without changes", d.SyncDir(), api.OK)
	ok(t, d.Create("c"), d.Append("c", []byte("w")), d.Rename("b", "d"), d.Remove("a"), d.SyncDir())
	leaves(t, d, crash(0), "c= d=123")
	leaves(t, d, crash(1), "c= d=123")
	leaves(t, d, crash(9, 0, 0, 1), "c=w d=123")
	ok(t, d.Create("a"), d.Rename("a", "d"))
	leaves(t, d, crash(0), "c= d=123")
	leaves(t, d, crash(1), "a= c= d=123")
	leaves(t, d, crash(2), "c= d=")
	ok(t, d.SyncDir(), d.SyncDir())
	leaves(t, d, crash(0), "c= d=")
	if d.Count() != 10 {
		t.Errorf("Count: %d", d.Count())
	}
}

// P5.2 to P5.6: at MaxOps operations every one is refused, behind its other errors; what only looks goes on.
func TestMaxOps(t *testing.T) {
	d := worn(t)
	if d.Count() != api.MaxOps {
		t.Fatalf("Count: %d", d.Count())
	}
	for _, x := range []struct {
		what string
		want api.Errno
		call func() api.Errno
	}{
		{"Create", api.ErrFull, func() api.Errno { return d.Create("b") }},
		{"Create of no name", api.ErrFile, func() api.Errno { return d.Create("B") }},
		{"Create of what is there", api.ErrThere, func() api.Errno { return d.Create("a") }},
		{"Append", api.ErrFull, func() api.Errno { return d.Append("a", []byte("w")) }},
		{"Append of nothing", api.ErrFull, func() api.Errno { return d.Append("a", nil) }},
		{"Append to none", api.ErrNone, func() api.Errno { return d.Append("b", nil) }},
		{"Sync", api.ErrFull, func() api.Errno { return d.Sync("a") }},
		{"Sync of none", api.ErrNone, func() api.Errno { return d.Sync("b") }},
		{"Rename", api.ErrFull, func() api.Errno { return d.Rename("a", "b") }},
		{"Rename to itself", api.ErrFull, func() api.Errno { return d.Rename("a", "a") }},
		{"Rename to no name", api.ErrFile, func() api.Errno { return d.Rename("a", "B") }},
		{"Rename of none", api.ErrNone, func() api.Errno { return d.Rename("b", "a") }},
		{"Remove", api.ErrFull, func() api.Errno { return d.Remove("a") }},
		{"Remove of none", api.ErrNone, func() api.Errno { return d.Remove("b") }},
		{"SyncDir", api.ErrFull, d.SyncDir},
	} {
		d.Arm(1) // what is refused is no operation, so the power holds
		stays(t, d, x.what, x.want, x.call)
	}
	if s := now(t, d); s != "a=xyz" || d.Free() != 97 {
		t.Errorf("%q, Free %d", s, d.Free())
	}
	next := made(t, 100, d.Durable()...)
	is(t, "an operation of the next disk", next.Sync("a"), api.OK)
}

// P5.2 to P5.6: the last operation that may be done, of each kind.
func TestLastOperation(t *testing.T) {
	for what, call := range map[string]func(d *disk.Disk) api.Errno{
		"Create":  func(d *disk.Disk) api.Errno { return d.Create("b") },
		"Append":  func(d *disk.Disk) api.Errno { return d.Append("a", []byte("w")) },
		"Rename":  func(d *disk.Disk) api.Errno { return d.Rename("a", "b") },
		"Remove":  func(d *disk.Disk) api.Errno { return d.Remove("a") },
		"SyncDir": func(d *disk.Disk) api.Errno { return d.SyncDir() },
	} {
		d := made(t, 100, holds("a", "xyz"))
		for range api.MaxOps - 1 {
			d.SyncDir()
		}
		is(t, what, call(d), api.OK)
		is(t, "SyncDir behind it", d.SyncDir(), api.ErrFull)
	}
}

// P5.3: files of all lengths, in pieces of all lengths.
func TestAppendInPieces(t *testing.T) {
	d := made(t, math.MaxInt)
	ok(t, d.Create("a"), d.SyncDir())
	var whole []byte
	for n := range 200 {
		p := bytes.Repeat([]byte{byte(n)}, n*n%97)
		ok(t, d.Append("a", p))
		if n%7 == 0 {
			ok(t, d.Sync("a"))
		}
		whole = append(whole, p...)
		if b, _ := d.Read("a"); !bytes.Equal(b, whole) {
			t.Fatalf("%d pieces", n)
		}
		if l := d.Left(all()); len(l) != 1 || !bytes.Equal(l[0].Bytes, whole) {
			t.Fatalf("%d pieces are left otherwise", n)
		}
	}
}
