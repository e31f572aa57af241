package disk_test

import (
	"bytes"
	"math"
	"math/rand"
	"slices"
	"strconv"
	"strings"
	"testing"

	"wicket/api"
	"wicket/disk"
)

// made is a disk of files that New takes.
func made(t *testing.T, room int, files ...api.File) *disk.Disk {
	t.Helper()
	d, e := disk.New(files, room)
	if e != api.OK || d == nil {
		t.Fatalf("New: %d", e)
	}
	return d
}

func holds(name, text string) api.File { return api.File{Name: name, Bytes: []byte(text)} }

// full is a disk with as many files as there may be, named f0 and so on.
func full(t *testing.T) *disk.Disk {
	t.Helper()
	var files []api.File
	for i := range api.MaxFiles {
		files = append(files, holds("f"+strconv.Itoa(i), ""))
	}
	return made(t, 100, files...)
}

// worn is a disk of room 100 on which as many operations were done as there may be, with the file a.
func worn(t *testing.T) *disk.Disk {
	t.Helper()
	d := made(t, 100, holds("a", "xyz"))
	for range api.MaxOps {
		if e := d.Sync("a"); e != api.OK {
			t.Fatalf("Sync behind %d operations: %d", d.Count(), e)
		}
	}
	return d
}

// is: the call of that name has that answer.
func is(t *testing.T, call string, e, want api.Errno) {
	t.Helper()
	if e != want {
		t.Errorf("%s: %d, not %d", call, e, want)
	}
}

func ok(t *testing.T, errs ...api.Errno) {
	t.Helper()
	for i, e := range errs {
		if e != api.OK {
			t.Fatalf("call %d: %d", i, e)
		}
	}
}

// told writes files as name=bytes, with a blank between two.
func told(files []api.File) string {
	var words []string
	for _, f := range files {
		words = append(words, f.Name+"="+string(f.Bytes))
	}
	return strings.Join(words, " ")
}

func crash(dir int, tails ...int) api.Crash { return api.Crash{Dir: dir, Tails: tails} }

func leaves(t *testing.T, d *disk.Disk, c api.Crash, want string) {
	t.Helper()
	if s := told(d.Left(c)); s != want {
		t.Errorf("Left(%v): %q, not %q", c, s, want)
	}
}

// all is the Crash that keeps whatever can be kept of the first 200 files.
func all() api.Crash {
	return crash(math.MaxInt, slices.Repeat([]int{math.MaxInt}, 200)...)
}

// now is what List and Read tell.
func now(t *testing.T, d *disk.Disk) string {
	t.Helper()
	var files []api.File
	for _, name := range d.List() {
		b, e := d.Read(name)
		if e != api.OK {
			t.Fatalf("Read(%q): %d", name, e)
		}
		files = append(files, api.File{Name: name, Bytes: b})
	}
	return told(files)
}

// state is all that can be seen of a disk of a few files and changes.
func state(d *disk.Disk) string {
	s := strings.Join(d.List(), ",") + " " + strconv.Itoa(d.Free()) + " " + strconv.Itoa(d.Count()) + " " + strconv.FormatBool(d.Dead())
	for _, name := range d.List() {
		b, e := d.Read(name)
		s += " " + string(b) + strconv.Itoa(int(e))
	}
	for dir := range 12 {
		for tail := range 6 {
			s += "\n" + told(d.Left(crash(dir, slices.Repeat([]int{tail}, 20)...)))
		}
	}
	return s
}

// stays: the call answers that error, and nothing has changed.
func stays(t *testing.T, d *disk.Disk, what string, want api.Errno, call func() api.Errno) {
	t.Helper()
	was := state(d)
	is(t, what, call(), want)
	if s := state(d); s != was {
		t.Errorf("%s has changed\n%s\nto\n%s", what, was, s)
	}
}

func drawnName(r *rand.Rand) string {
	if r.Intn(12) == 0 {
		return []string{"", "A", "a b", "a/b", "\xff", strings.Repeat("n", api.MaxFileName+1)}[r.Intn(6)]
	}
	return []string{"a", "b", "c.d", "e-1", "_", strings.Repeat("n", api.MaxFileName)}[r.Intn(6)]
}

func drawnCrash(r *rand.Rand) api.Crash {
	c := api.Crash{Dir: r.Intn(12) - 2}
	for range r.Intn(16) {
		c.Tails = append(c.Tails, r.Intn(16)-3)
	}
	switch r.Intn(8) {
	case 0:
		c.Dir = math.MaxInt
	case 1:
		c.Dir = math.MinInt
	case 2:
		c.Tails = append(c.Tails, math.MaxInt, math.MinInt)
	}
	return c
}

// drawnOperation does one of the six, and says which.
func drawnOperation(r *rand.Rand, d operations) (string, api.Errno) {
	name, to, p := drawnName(r), drawnName(r), bytes.Repeat([]byte{byte('a' + r.Intn(26))}, r.Intn(9))
	if r.Intn(40) == 0 {
		p = make([]byte, 101)
	}
	switch r.Intn(12) {
	case 0, 1:
		return "Create " + name, d.Create(name)
	case 2:
		return "Remove " + name, d.Remove(name)
	case 3, 4:
		return "Rename " + name + " " + to, d.Rename(name, to)
	case 5, 6:
		return "Sync " + name, d.Sync(name)
	case 7:
		return "SyncDir", d.SyncDir()
	}
	return "Append " + name + " " + string(p), d.Append(name, p)
}

// operations is what a disk and the slow one have in common.
type operations interface {
	Create(name string) api.Errno
	Append(name string, p []byte) api.Errno
	Sync(name string) api.Errno
	Rename(from, to string) api.Errno
	Remove(name string) api.Errno
	SyncDir() api.Errno
}
