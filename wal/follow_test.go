package wal_test

import (
	"math/rand"
	"strconv"
	"testing"

	"wicket/api"
	"wicket/disk"
	"wicket/wal"
)

// past is what was done to a log, as far as P6.8 hangs on it.
type past struct {
	state   string   // of the last Snapshot that answered OK
	records []string // that were appended behind it
	synced  int      // how many of them a Sync answered OK for
	half    []string // the state of the Snapshot that had an error of the disk, if there is one
}

func (p *past) append(l *wal.Log, text string) api.Errno {
	e := l.Append([]byte(text))
	if e == api.OK {
		p.records = append(p.records, text)
	}
	return e
}

func (p *past) sync(l *wal.Log) api.Errno {
	e := l.Sync()
	if e == api.OK {
		p.synced = len(p.records)
	}
	return e
}

func (p *past) snapshot(l *wal.Log, text string) api.Errno {
	was := l.Broken()
	e := l.Snapshot([]byte(text))
	if e == api.OK {
		*p = past{state: text}
	} else if l.Broken() && !was {
		p.half = []string{text}
	}
	return e
}

// allows: may a log that is opened behind a power failure tell this?
func (p past) allows(told string) bool {
	for n := p.synced; n <= len(p.records); n++ {
		if told == said(p.state, p.records[:n]...) {
			return true
		}
	}
	return len(p.half) > 0 && told == said(p.half[0])
}

func (p past) String() string {
	s := said(p.state, p.records...) + ", " + strconv.Itoa(p.synced) + " synced"
	for _, h := range p.half {
		s += ", " + strconv.Quote(h) + " half done"
	}
	return s
}

// pastOf is the past of a log that was opened just now.
func pastOf(l *wal.Log) *past {
	return &past{state: string(l.State()), records: texts(l), synced: l.Count()}
}

// story does to the log what is to be done, whatever the answers are, and hands back its past.
func story(l *wal.Log) *past {
	p := pastOf(l)
	p.append(l, "a")
	p.sync(l)
	p.append(l, "bcd")
	p.append(l, "")
	p.sync(l)
	p.append(l, "not synced, and torn")
	p.snapshot(l, "S1")
	p.append(l, "x")
	p.append(l, "yy")
	p.sync(l)
	p.sync(l)
	p.append(l, "z")
	p.snapshot(l, "")
	p.snapshot(l, "S3")
	p.append(l, "last")
	p.append(l, "of all")
	return p
}

// crashes are the ways in which a power failure takes what was not synced, as far as they can be told in a story.
func crashes() []api.Crash {
	var list []api.Crash
	for dir := range 4 {
		for tail := range 34 {
			list = append(list, tailed(dir, tail))
		}
	}
	return append(list, all(), api.Crash{})
}

// P6.8, P6.10: the power fails at every operation, and is taken back in every way.
func TestWhatWasSyncedIsThere(t *testing.T) {
	for _, room := range []int{20, 42, 60, 75, 100, 200} {
		for n := range 60 {
			d, l := begun(t, room, holds("other", "123"))
			d.Arm(n)
			p := story(l)
			for _, c := range crashes() {
				back, m := begun(t, room, d.Left(c)...)
				if !p.allows(saidOf(m)) {
					t.Fatalf("room %d, Arm(%d), %v: the log tells %s, behind %v", room, n, c.Dir, saidOf(m), p)
				}
				if len(back.List()) != 2 || string(there(back)[0].Bytes) != "123" {
					t.Fatalf("room %d, Arm(%d): %v are left", room, n, back.List())
				}
			}
		}
	}
}

// P6.8: all that a story's power failures may leave is left by some of them, so the test above has looked at it; and nothing else is.
func TestTheStoryIsTold(t *testing.T) {
	heard := map[string]int{}
	for n := range 60 {
		d, l := begun(t, 200)
		d.Arm(n)
		story(l)
		for _, c := range crashes() {
			_, m := begun(t, 200, d.Left(c)...)
			heard[saidOf(m)]++
		}
	}
	torn := "not synced, and torn"
	for _, s := range []string{said(""), said("", "a"), said("", "a", "bcd"), said("", "a", "bcd", ""), said("", "a", "bcd", "", torn), said("S1"), said("S1", "x"), said("S1", "x", "yy"), said("S1", "x", "yy", "z"), said("S3"), said("S3", "last"), said("S3", "last", "of all")} {
		if heard[s] == 0 {
			t.Errorf("nobody tells %s", s)
		}
	}
	if len(heard) != 12 {
		t.Errorf("%v", heard)
	}
}

// sameBehind: an Open behind this one, on the same disk or on what is left of it, tells the same.
func sameBehind(t *testing.T, room int, d *disk.Disk, want string) {
	t.Helper()
	for _, c := range []api.Crash{{}, all(), tailed(1, 5), tailed(2, 0)} {
		if _, m := begun(t, room, d.Left(c)...); saidOf(m) != want || m.Cut() != 0 {
			t.Fatalf("behind a power failure: %s, not %s", saidOf(m), want)
		}
	}
	count := d.Count()
	if m := opened(t, d); saidOf(m) != want || m.Cut() != 0 || d.Count() != count+2 {
		t.Fatalf("on the same disk: %s, not %s", saidOf(m), want)
	}
}

// P6.9, P6.10: the power fails at every operation of an Open too.
func TestOpenedAgainAndAgain(t *testing.T) {
	r := rand.New(rand.NewSource(61))
	for n := range 45 {
		d, l := begun(t, 100)
		d.Arm(n)
		p := story(l)
		for _, dir := range []int{0, 1, 2, 3} {
			for _, tail := range []int{0, 1, 5, 11, 12, 14, 30, 31} {
				files := d.Left(tailed(dir, tail))
				back, m := begun(t, 100, files...)
				want := saidOf(m)
				if !p.allows(want) {
					t.Fatalf("Arm(%d): %s", n, want)
				}
				sameBehind(t, 100, back, want)
				for armed := range 9 {
					openedAtLast(t, r, files, 1+armed, want)
				}
			}
		}
	}
}

// openedAtLast opens what is left of an Open whose power failed, till one is done.
func openedAtLast(t *testing.T, r *rand.Rand, files []api.File, armed int, want string) {
	t.Helper()
	for {
		d := diskOf(t, 100, files...)
		d.Arm(armed)
		l, e := wal.Open(d)
		if e == api.OK {
			if saidOf(l) != want {
				t.Fatalf("%s, not %s", saidOf(l), want)
			}
			sameBehindDrawn(t, r, d, want)
			return
		}
		if e != api.ErrDead || l != nil {
			t.Fatalf("Open: %d", e)
		}
		files = d.Left(drawnCrash(r))
		armed = 1 + r.Intn(9)
	}
}

func sameBehindDrawn(t *testing.T, r *rand.Rand, d *disk.Disk, want string) {
	t.Helper()
	if _, m := begun(t, 100, d.Left(drawnCrash(r))...); saidOf(m) != want {
		t.Fatalf("%s, not %s", saidOf(m), want)
	}
}

// P6.8 to P6.10: a log's life of many power failures, in little room.
func TestLives(t *testing.T) {
	for seed := range int64(300) {
		r := rand.New(rand.NewSource(seed))
		room := 10 + r.Intn(150)
		d, l := begun(t, room)
		for range 25 {
			p := pastOf(l)
			d.Arm(r.Intn(25))
			for range r.Intn(20) {
				switch r.Intn(6) {
				case 0:
					p.snapshot(l, drawnText(r))
				case 1, 2:
					p.sync(l)
				default:
					p.append(l, drawnText(r))
				}
			}
			d, l = backAgain(t, r, room, d.Left(drawnCrash(r)))
			if !p.allows(saidOf(l)) {
				t.Fatalf("seed %d: the log tells %s, behind %v", seed, saidOf(l), p)
			}
			if len(d.List()) != 1 {
				t.Fatalf("seed %d: %v", seed, d.List())
			}
		}
	}
}

// backAgain opens what is left, with the power failing a few times more.
func backAgain(t *testing.T, r *rand.Rand, room int, files []api.File) (*disk.Disk, *wal.Log) {
	t.Helper()
	for range r.Intn(4) {
		d := diskOf(t, room, files...)
		d.Arm(1 + r.Intn(8))
		if _, e := wal.Open(d); e != api.OK && e != api.ErrDead {
			t.Fatalf("Open: %d", e)
		}
		files = d.Left(drawnCrash(r))
	}
	return begun(t, room, files...)
}

// P6.10: the way back is open where the log has taken all the room that it may, a generation's number being about to be longer too.
func TestTheWayBackIsOpen(t *testing.T) {
	for _, number := range []int{1, 126, 127, 128, 16383} {
		for room := 40; room < 90; room++ {
			d, l := begun(t, room, generation(number, "", ""))
			for l.Append([]byte("r")) == api.OK {
			}
			count := l.Count()
			for tail := range 12 * (count + 1) {
				files := d.Left(tailed(0, tail))
				back, m := begun(t, room, files...)
				if m.Count() > count || count > 0 && tail == 0 && m.Count() != 0 {
					t.Fatalf("%d records", m.Count())
				}
				back.Arm(2)
				wal.Open(back)
				begun(t, room, back.Left(all())...)
			}
		}
	}
}

// P6.10: but for MaxFiles, MaxOps and MaxEpoch.
func TestTheWayBackIsShut(t *testing.T) {
	d, l := begun(t, 1000, append(others(63), generation(3, "", "S"))...)
	ok(t, l.Append([]byte("a")))
	refused(t, "MaxFiles", diskOf(t, 1000, d.Left(tailed(0, 1))...), api.ErrFull)
	d, l = begun(t, 1000, generation(api.MaxEpoch, "", "S"))
	ok(t, l.Append([]byte("a")))
	refused(t, "MaxEpoch", diskOf(t, 1000, d.Left(tailed(0, 1))...), api.ErrFull)
	_, l = begun(t, 1000, d.Left(all())...)
	tells(t, l, api.MaxEpoch, 0, "S", "a")
}
