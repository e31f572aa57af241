package disk_test

import (
	"bytes"
	"math/rand"
	"slices"
	"strings"
	"testing"

	"wicket/api"
	"wicket/disk"
)

// slow is a disk by the chapter's words, that keeps all directories since the last SyncDir whole, and all files for ever.
type slow struct {
	files []slowFile
	dirs  [][]slowName // the last one is the directory as it is
	room  int
	done  int
	dieAt int // how many operations are done when the power fails; below 0: it does not
	dead  bool
}

type slowFile struct {
	bytes  []byte
	synced int
}

type slowName struct {
	name string
	file int
}

func slowNew(files []api.File, room int) *slow {
	s := &slow{room: room, dieAt: -1, dirs: [][]slowName{nil}}
	for i, f := range files {
		s.files = append(s.files, slowFile{bytes.Clone(f.Bytes), len(f.Bytes)})
		s.dirs[0] = append(s.dirs[0], slowName{f.Name, i})
	}
	return s
}

func (s *slow) dir() []slowName { return s.dirs[len(s.dirs)-1] }

func (s *slow) number(name string) int {
	for _, n := range s.dir() {
		if n.name == name {
			return n.file
		}
	}
	return -1
}

func (s *slow) used() int {
	sum := 0
	for _, n := range s.dir() {
		sum += len(s.files[n.file].bytes)
	}
	return sum
}

// call answers the first of its errors that applies; else the power fails, or the call is an operation, and do is done.
func (s *slow) call(errs []slowError, do func()) api.Errno {
	if s.dead {
		return api.ErrDead
	}
	for _, e := range append(errs, slowError{s.done >= api.MaxOps, api.ErrFull}) {
		if e.applies {
			return e.errno
		}
	}
	if s.done == s.dieAt {
		s.dead = true
		return api.ErrDead
	}
	s.done++
	do()
	return api.OK
}

type slowError struct {
	applies bool
	errno   api.Errno
}

// becomes: the directory is another one: without those names, and with one more, if file is not below 0.
func (s *slow) becomes(without []string, name string, file int) {
	next := slices.DeleteFunc(slices.Clone(s.dir()), func(n slowName) bool { return slices.Contains(without, n.name) })
	if file >= 0 {
		next = append(next, slowName{name, file})
	}
	s.dirs = append(s.dirs, next)
}

func slowIsName(name string) bool {
	for _, c := range []byte(name) {
		if !strings.Contains("abcdefghijklmnopqrstuvwxyz0123456789.-_", string(rune(c))) {
			return false
		}
	}
	return len(name) >= 1 && len(name) <= 32
}

func (s *slow) Create(name string) api.Errno {
	return s.call([]slowError{{!slowIsName(name), api.ErrFile}, {s.number(name) >= 0, api.ErrThere}, {len(s.dir()) >= 64, api.ErrFull}}, func() {
		s.files = append(s.files, slowFile{})
		s.becomes(nil, name, len(s.files)-1)
	})
}

func (s *slow) Append(name string, p []byte) api.Errno {
	i := s.number(name)
	return s.call([]slowError{{i < 0, api.ErrNone}, {i >= 0 && len(s.files[max(i, 0)].bytes)+len(p) > 4194304, api.ErrFull}, {s.used()+len(p) > s.room, api.ErrFull}}, func() {
		s.files[i].bytes = slices.Concat(s.files[i].bytes, p)
	})
}

func (s *slow) Sync(name string) api.Errno {
	i := s.number(name)
	return s.call([]slowError{{i < 0, api.ErrNone}}, func() { s.files[i].synced = len(s.files[i].bytes) })
}

func (s *slow) Rename(from, to string) api.Errno {
	i := s.number(from)
	return s.call([]slowError{{i < 0, api.ErrNone}, {!slowIsName(to), api.ErrFile}}, func() {
		if from != to {
			s.becomes([]string{from, to}, to, i)
		}
	})
}

func (s *slow) Remove(name string) api.Errno {
	return s.call([]slowError{{s.number(name) < 0, api.ErrNone}}, func() { s.becomes([]string{name}, "", -1) })
}

func (s *slow) SyncDir() api.Errno {
	return s.call(nil, func() { s.dirs = [][]slowName{s.dir()} })
}

func (s *slow) Arm(n int) {
	s.dieAt = -1
	if n >= 1 {
		s.dieAt = s.done + n - 1
	}
}

func (s *slow) Left(c api.Crash) []api.File {
	at := c.Dir
	if at < 0 {
		at = 0
	}
	if at > len(s.dirs)-1 {
		at = len(s.dirs) - 1
	}
	var files []api.File
	for _, n := range s.dirs[at] {
		f := s.files[n.file]
		b := slices.Clone(f.bytes[:f.synced])
		for i, x := range f.bytes[f.synced:] {
			if n.file < len(c.Tails) && i < c.Tails[n.file] {
				b = append(b, x)
			}
		}
		files = append(files, api.File{Name: n.name, Bytes: b})
	}
	slices.SortFunc(files, func(a, b api.File) int { return strings.Compare(a.Name, b.Name) })
	return files
}

// P5.1 to P5.9: disk and slow disk answer the same, whatever is done, the power failing or not.
func TestIsTheSlowDisk(t *testing.T) {
	for seed := range int64(600) {
		r := rand.New(rand.NewSource(seed))
		var files []api.File
		for _, name := range []string{"b", "a", "_"}[:r.Intn(4)] {
			files = append(files, holds(name, strings.Repeat("o", r.Intn(6))))
		}
		room := 20 + r.Intn(80)
		d, s := made(t, room, files...), slowNew(files, room)
		for range 60 {
			if r.Intn(20) == 0 && !s.dead {
				n := r.Intn(12) - 2
				d.Arm(n)
				s.Arm(n)
			}
			draw := r.Int63()
			what, e := drawnOperation(rand.New(rand.NewSource(draw)), d)
			_, want := drawnOperation(rand.New(rand.NewSource(draw)), s)
			if e != want {
				t.Fatalf("seed %d: %s: %d, not %d", seed, what, e, want)
			}
			isSlow(t, d, s)
			for range 4 {
				if c := drawnCrash(r); told(d.Left(c)) != told(s.Left(c)) {
					t.Fatalf("seed %d: behind %s: Left(%v): %q, not %q", seed, what, c, told(d.Left(c)), told(s.Left(c)))
				}
			}
		}
	}
}

// isSlow: do List, Read, Free, Count, Dead and Durable tell what the slow disk has?
func isSlow(t *testing.T, d *disk.Disk, s *slow) {
	t.Helper()
	if d.Count() != s.done || d.Dead() != s.dead || told(d.Durable()) != told(s.Left(api.Crash{})) {
		t.Fatalf("Count %d, Dead %v, Durable %q", d.Count(), d.Dead(), told(d.Durable()))
	}
	if s.dead {
		if len(d.List()) != 0 || d.Free() != 0 {
			t.Fatalf("a dead disk: %q %d", d.List(), d.Free())
		}
		return
	}
	if now(t, d) != told(s.Left(all())) || d.Free() != s.room-s.used() {
		t.Fatalf("%q, not %q; Free %d", now(t, d), told(s.Left(all())), d.Free())
	}
}
