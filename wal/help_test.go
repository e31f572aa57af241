package wal_test

import (
	"bytes"
	"math"
	"math/rand"
	"slices"
	"strconv"
	"strings"
	"testing"

	"wicket/api"
	"wicket/disk"
	"wicket/frame"
	"wicket/wal"
)

const roomy = 1 << 24

// sealed is a frame whose load is a number and p behind it.
func sealed(kind byte, number uint64, p string) string {
	b, e := frame.Seal(kind, append(frame.PutUint(nil, number), p...))
	if e != api.OK {
		panic("no frame")
	}
	return string(b)
}

// body is what a generation's file has.
func body(number int, state string, records ...string) string {
	s := sealed(1, uint64(number), state)
	for i, r := range records {
		s += sealed(2, uint64(i+1), r)
	}
	return s
}

func name(number int) string { return "wal-" + strconv.Itoa(number) }

func holds(name, text string) api.File { return api.File{Name: name, Bytes: []byte(text)} }

// generation is a generation's file, with a tail behind its frames.
func generation(number int, tail, state string, records ...string) api.File {
	return holds(name(number), body(number, state, records...)+tail)
}

func diskOf(t *testing.T, room int, files ...api.File) *disk.Disk {
	t.Helper()
	d, e := disk.New(files, room)
	if e != api.OK {
		t.Fatalf("New: %d", e)
	}
	return d
}

func opened(t *testing.T, d *disk.Disk) *wal.Log {
	t.Helper()
	l, e := wal.Open(d)
	if e != api.OK || l == nil {
		t.Fatalf("Open: %d", e)
	}
	return l
}

// begun is a log on a new disk.
func begun(t *testing.T, room int, files ...api.File) (*disk.Disk, *wal.Log) {
	t.Helper()
	d := diskOf(t, room, files...)
	return d, opened(t, d)
}

// refused: Open answers that error and no log.
func refused(t *testing.T, what string, d *disk.Disk, want api.Errno) {
	t.Helper()
	if l, e := wal.Open(d); l != nil || e != want {
		t.Errorf("%s: Open: %v, %d, not %d", what, l, e, want)
	}
}

// is: the call of that name has that answer.
func is(t *testing.T, call string, e, want api.Errno) {
	t.Helper()
	if e != want {
		t.Errorf("%s: %d, not %d", call, e, want)
	}
}

func ok(t *testing.T, errs ...api.Errno) {
	t.Helper()
	for i, e := range errs {
		if e != api.OK {
			t.Fatalf("call %d: %d", i, e)
		}
	}
}

// texts are the records as texts.
func texts(l *wal.Log) []string {
	var list []string
	for _, r := range l.Records() {
		list = append(list, string(r))
	}
	return list
}

// said is the state and the records, quoted.
func said(state string, records ...string) string {
	s := strconv.Quote(state)
	for _, r := range records {
		s += " " + strconv.Quote(r)
	}
	return s
}

func saidOf(l *wal.Log) string { return said(string(l.State()), texts(l)...) }

// lookOf is all that a log tells.
func lookOf(l *wal.Log) string {
	return strings.Join([]string{saidOf(l), strconv.Itoa(l.Epoch()), strconv.Itoa(l.Count()), strconv.Itoa(l.Cut()), strconv.FormatBool(l.Broken())}, " ")
}

// tells: the log has that state and these records.
func tells(t *testing.T, l *wal.Log, epoch, cut int, state string, records ...string) {
	t.Helper()
	want := strings.Join([]string{said(state, records...), strconv.Itoa(epoch), strconv.Itoa(len(records)), strconv.Itoa(cut), "false"}, " ")
	if s := lookOf(l); s != want {
		t.Errorf("the log tells %s, not %s", s, want)
	}
}

// told is what the files have, as one text that no other files have.
func told(files []api.File) string {
	var s strings.Builder
	for _, f := range files {
		s.WriteString(f.Name + "=" + strconv.Itoa(len(f.Bytes)) + ":")
		s.Write(f.Bytes)
	}
	return s.String()
}

// there is what List and Read tell.
func there(d *disk.Disk) []api.File {
	var files []api.File
	for _, n := range d.List() {
		b, _ := d.Read(n)
		files = append(files, api.File{Name: n, Bytes: b})
	}
	return files
}

// has: these are the disk's files, by rising name.
func has(t *testing.T, d *disk.Disk, files ...api.File) {
	t.Helper()
	if s := told(there(d)); s != told(files) {
		t.Errorf("the disk has %q, not %q", s, told(files))
	}
}

// tailed is the Crash that keeps so many changes and so many bytes of each tail.
func tailed(dir, tail int) api.Crash {
	return api.Crash{Dir: dir, Tails: slices.Repeat([]int{tail}, 200)}
}

// all is the Crash that keeps whatever can be kept.
func all() api.Crash { return tailed(math.MaxInt, math.MaxInt) }

// stateOf is all that can be seen of a disk, but for tails that are long.
func stateOf(d *disk.Disk) string {
	s := strconv.Itoa(d.Count()) + " " + strconv.Itoa(d.Free()) + " " + strconv.FormatBool(d.Dead()) + " " + told(there(d))
	for dir := range 12 {
		for _, tail := range []int{0, 1, 12, math.MaxInt} {
			s += "\n" + told(d.Left(tailed(dir, tail)))
		}
	}
	return s
}

// stays: the call answers that error, and nothing has changed, of the log and of the disk.
func stays(t *testing.T, d *disk.Disk, l *wal.Log, what string, want api.Errno, call func() api.Errno) {
	t.Helper()
	wasDisk, wasLog := stateOf(d), lookOf(l)
	is(t, what, call(), want)
	if stateOf(d) != wasDisk || lookOf(l) != wasLog {
		t.Errorf("%s has changed something", what)
	}
}

// worn is a disk with these files, on which as many operations were done as there may be but left.
func worn(t *testing.T, left int, files ...api.File) *disk.Disk {
	t.Helper()
	d := diskOf(t, roomy, files...)
	for range api.MaxOps - left {
		if e := d.SyncDir(); e != api.OK {
			t.Fatalf("SyncDir behind %d operations: %d", d.Count(), e)
		}
	}
	return d
}

// others are so many files that are not the log's.
func others(count int) []api.File {
	var files []api.File
	for i := range count {
		files = append(files, holds("f"+strconv.Itoa(i), "other"))
	}
	return files
}

func drawnText(r *rand.Rand) string {
	b := make([]byte, r.Intn(12))
	r.Read(b)
	return string(b)
}

func drawnCrash(r *rand.Rand) api.Crash {
	c := api.Crash{Dir: r.Intn(9) - 1}
	for range r.Intn(16) {
		c.Tails = append(c.Tails, r.Intn(40)-2)
	}
	switch r.Intn(8) {
	case 0:
		return all()
	case 1:
		c.Dir = math.MaxInt
	case 2:
		c.Tails = nil
	}
	return c
}

// operation is one of the disk's, with its arguments.
type operation func(d *disk.Disk) api.Errno

func create(name string) operation   { return func(d *disk.Disk) api.Errno { return d.Create(name) } }
func sync(name string) operation     { return func(d *disk.Disk) api.Errno { return d.Sync(name) } }
func remove(name string) operation   { return func(d *disk.Disk) api.Errno { return d.Remove(name) } }
func syncDir(d *disk.Disk) api.Errno { return d.SyncDir() }

func write(name, text string) operation {
	return func(d *disk.Disk) api.Errno { return d.Append(name, []byte(text)) }
}

func rename(from, to string) operation {
	return func(d *disk.Disk) api.Errno { return d.Rename(from, to) }
}

// making are the operations that make a generation with that file.
func making(f api.File) []operation {
	return []operation{create("temp"), write("temp", string(f.Bytes)), sync("temp"), rename("temp", f.Name), syncDir}
}

// byHand does the operations up to the first error.
func byHand(d *disk.Disk, operations []operation) api.Errno {
	for _, o := range operations {
		if e := o(d); e != api.OK {
			return e
		}
	}
	return api.OK
}

// takes: wherever the power fails, the call that ready makes ready does to the disk what these operations do, one behind the other.
func takes(t *testing.T, ready func() (*disk.Disk, func() api.Errno), operations ...operation) {
	t.Helper()
	for n := range len(operations) + 3 {
		d, call := ready()
		hand, _ := ready()
		d.Arm(n)
		hand.Arm(n)
		e, want := call(), byHand(hand, operations)
		if e != want || stateOf(d) != stateOf(hand) {
			t.Fatalf("Arm(%d): %d, not %d\n%q\nnot\n%q", n, e, want, stateOf(d), stateOf(hand))
		}
	}
}

// scribble turns every byte of a list, spare room too.
func scribble(p []byte) {
	p = p[:cap(p)]
	for i := range p {
		p[i] ^= 0xff
	}
}

// spared gives p with spare room behind it, all of it filled, and the whole of that memory.
func spared(p string) (list, whole []byte) {
	whole = bytes.Clone([]byte(p + "spare room that nobody may see"))
	return whole[:len(p)], whole
}
