package wal_test

import (
	"math/rand"
	"slices"
	"strconv"
	"strings"
	"testing"

	"wicket/api"
	"wicket/disk"
	"wicket/frame"
	"wicket/wal"
)

// slow is a log by the chapter's words, that reads its own file whenever it needs to know what is in it.
type slow struct {
	d       *disk.Disk
	state   string
	records []string
	epoch   int
	cut     int
	broken  bool
}

// slowNumber is a generation's number, or 0.
func slowNumber(name string) int {
	digits := strings.TrimPrefix(name, "wal-")
	if digits == name || digits == "" || digits[0] == '0' || len(digits) > 13 || strings.Trim(digits, "0123456789") != "" {
		return 0
	}
	n := 0
	for _, c := range digits {
		n = 10*n + int(c-'0')
	}
	if n > 1<<40 {
		return 0
	}
	return n
}

// slowRead is what a generation's file says, how many of its bytes are torn, and whether it may be so.
func slowRead(number int, b []byte) (state string, records []string, torn int, fine bool) {
	for at := 0; at < len(b) || at == 0; {
		f, n, e := frame.Open(b[at:])
		if e == api.ErrShort && at > 0 {
			return state, records, len(b) - at, true
		}
		if e != api.OK {
			return "", nil, 0, false
		}
		kind, want, most := byte(2), len(records)+1, 65536
		if at == 0 {
			kind, want, most = 1, number, 1048576
		}
		head := string(frame.PutUint(nil, uint64(want)))
		said, right := strings.CutPrefix(string(f.Load), head)
		if !right || f.Kind != kind || len(said) > most {
			return "", nil, 0, false
		}
		if at == 0 {
			state = said
		} else {
			records = append(records, said)
		}
		at += n
	}
	return state, records, 0, true
}

func slowOpen(d *disk.Disk) (*slow, api.Errno) {
	if d.Dead() {
		return nil, api.ErrArg
	}
	if slices.Contains(d.List(), "temp") {
		if e := d.Remove("temp"); e != api.OK {
			return nil, e
		}
	}
	var numbers []int
	for _, n := range d.List() {
		if slowNumber(n) > 0 {
			numbers = append(numbers, slowNumber(n))
		}
	}
	slices.Sort(numbers)
	s := &slow{d: d, epoch: 1}
	if len(numbers) == 0 {
		return s, s.make(generation(1, "", ""))
	}
	s.epoch = numbers[len(numbers)-1]
	if e := s.settle(); e != api.OK {
		return nil, e
	}
	var operations []operation
	for _, n := range numbers {
		if n != s.epoch {
			operations = append(operations, remove(name(n)))
		}
	}
	if len(operations) > 0 {
		operations = append(operations, syncDir)
	}
	return s, byHand(d, operations)
}

// settle is the third step of opening.
func (s *slow) settle() api.Errno {
	b, _ := s.d.Read(name(s.epoch))
	var fine bool
	s.state, s.records, s.cut, fine = slowRead(s.epoch, b)
	if !fine {
		return api.ErrRot
	}
	if s.cut == 0 {
		return byHand(s.d, []operation{sync(name(s.epoch)), syncDir})
	}
	if s.epoch == 1<<40 {
		return api.ErrFull
	}
	s.epoch++
	return s.make(generation(s.epoch, "", s.state, s.records...))
}

func (s *slow) make(f api.File) api.Errno {
	if s.d.Free() < len(f.Bytes) {
		return api.ErrFull
	}
	return byHand(s.d, making(f))
}

// does is what a call that has operations to do answers; then what is to be done, where they were.
func (s *slow) does(operations []operation, then func()) api.Errno {
	if e := byHand(s.d, operations); e != api.OK {
		s.broken = true
		return e
	}
	then()
	return api.OK
}

func (s *slow) Append(p []byte) api.Errno {
	f := sealed(2, uint64(len(s.records)+1), string(p))
	b, _ := s.d.Read(name(s.epoch))
	size := len(b) + len(f)
	switch {
	case len(p) > 65536:
		return api.ErrLong
	case s.broken:
		return api.ErrBroken
	case size > 4194304 || s.d.Free() < size+len(f):
		return api.ErrFull
	}
	return s.does([]operation{write(name(s.epoch), f)}, func() { s.records = append(s.records, string(p)) })
}

func (s *slow) Sync() api.Errno {
	if s.broken {
		return api.ErrBroken
	}
	return s.does([]operation{sync(name(s.epoch))}, func() {})
}

func (s *slow) Snapshot(state []byte) api.Errno {
	if len(state) > 1048576 {
		return api.ErrLong
	}
	if s.broken {
		return api.ErrBroken
	}
	old, _ := s.d.Read(name(s.epoch))
	next := generation(s.epoch+1, "", string(state))
	if s.epoch == 1<<40 || s.d.Free() < len(next.Bytes) || s.d.Free()+len(old) < 2*len(next.Bytes) {
		return api.ErrFull
	}
	return s.does(append(making(next), remove(name(s.epoch)), syncDir), func() {
		s.epoch, s.state, s.records = s.epoch+1, string(state), nil
	})
}

func (s *slow) look() string {
	return strings.Join([]string{said(s.state, s.records...), strconv.Itoa(s.epoch), strconv.Itoa(len(s.records)), strconv.Itoa(s.cut), strconv.FormatBool(s.broken)}, " ")
}

// writes is what a log and the slow one have in common.
type writes interface {
	Append(p []byte) api.Errno
	Sync() api.Errno
	Snapshot(state []byte) api.Errno
}

// drawnWrite does one of the three, and says which.
func drawnWrite(r *rand.Rand, l writes) (string, api.Errno) {
	text := drawnText(r)
	if r.Intn(50) == 0 {
		text = strings.Repeat("l", 65537)
	}
	switch r.Intn(9) {
	case 0, 1, 2:
		return "Sync", l.Sync()
	case 3:
		return "Snapshot of " + strconv.Quote(text[:min(len(text), 20)]), l.Snapshot([]byte(text))
	}
	return "Append of " + strconv.Quote(text[:min(len(text), 20)]), l.Append([]byte(text))
}

// drawnFiles are files of which some are a log's, torn or rotten or not.
func drawnFiles(r *rand.Rand) []api.File {
	var files []api.File
	numbers := []int{1, 2, 9, 10, 127, 128, 1<<40 - 1, 1 << 40}
	for _, i := range r.Perm(len(numbers))[:r.Intn(4)] {
		var records []string
		for range r.Intn(4) {
			records = append(records, drawnText(r))
		}
		f := generation(numbers[i], "", drawnText(r), records...)
		switch r.Intn(8) {
		case 0:
			f.Bytes[r.Intn(len(f.Bytes))] ^= 1 << r.Intn(8)
		case 1, 2:
			f.Bytes = f.Bytes[:r.Intn(len(f.Bytes)+1)]
		case 3:
			f.Bytes = append(f.Bytes, drawnText(r)...)
		case 4:
			f.Bytes = append(f.Bytes, sealed(byte(1+r.Intn(3)), uint64(r.Intn(5)), drawnText(r))...)
		}
		files = append(files, f)
	}
	for _, n := range []string{"temp", "wal-01", "other", "wal-"} {
		if r.Intn(4) == 0 {
			files = append(files, holds(n, drawnText(r)))
		}
	}
	return files
}

func sizeOf(files []api.File) int {
	sum := 0
	for _, f := range files {
		sum += len(f.Bytes)
	}
	return sum
}

// twoDisks are two disks of the same files, whose power fails at the same operation.
func twoDisks(t *testing.T, r *rand.Rand, room int, files []api.File) (*disk.Disk, *disk.Disk) {
	t.Helper()
	a, b := diskOf(t, room, files...), diskOf(t, room, files...)
	if r.Intn(3) == 0 {
		n := 1 + r.Intn(12)
		a.Arm(n)
		b.Arm(n)
	}
	return a, b
}

// P6.1 to P6.6, P6.10, rule 4: log and slow log answer the same and leave the same, whatever is done, the power failing or not.
func TestIsTheSlowLog(t *testing.T) {
	for seed := range int64(1000) {
		r := rand.New(rand.NewSource(seed))
		files := drawnFiles(r)
		room := sizeOf(files) + r.Intn(250)
		for range 4 {
			d, hand := twoDisks(t, r, room, files)
			l, e := wal.Open(d)
			s, want := slowOpen(hand)
			if e != want || (l == nil) != (e != api.OK) || stateOf(d) != stateOf(hand) {
				t.Fatalf("seed %d: Open: %d, not %d\n%q\nnot\n%q", seed, e, want, stateOf(d), stateOf(hand))
			}
			if e == api.OK {
				writeBoth(t, r, seed, l, s)
				if stateOf(d) != stateOf(hand) {
					t.Fatalf("seed %d:\n%q\nnot\n%q", seed, stateOf(d), stateOf(hand))
				}
			}
			files = d.Left(drawnCrash(r))
		}
	}
}

func writeBoth(t *testing.T, r *rand.Rand, seed int64, l *wal.Log, s *slow) {
	t.Helper()
	for range r.Intn(16) {
		draw := r.Int63()
		what, e := drawnWrite(rand.New(rand.NewSource(draw)), l)
		_, want := drawnWrite(rand.New(rand.NewSource(draw)), s)
		if e != want || lookOf(l) != s.look() {
			t.Fatalf("seed %d: %s: %d, not %d; the log tells %s, not %s", seed, what, e, want, lookOf(l), s.look())
		}
	}
}
