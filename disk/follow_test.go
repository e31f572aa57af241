package disk_test

import (
	"bytes"
	"math/rand"
	"testing"

	"wicket/api"
	"wicket/disk"
)

// busy is a disk behind count operations that are drawn.
func busy(t *testing.T, r *rand.Rand, count int) *disk.Disk {
	t.Helper()
	d := made(t, 100, holds("a", "xyz"), holds("c.d", ""))
	for range count {
		drawnOperation(r, d)
	}
	return d
}

// P5.11: what Left names has its synced bytes at its beginning, and nothing but a beginning of its bytes.
func TestWhatWasSyncedIsThere(t *testing.T) {
	r := rand.New(rand.NewSource(71))
	for range 3000 {
		d := busy(t, r, r.Intn(30))
		if r.Intn(3) == 0 {
			d.Arm(1)
			d.SyncDir()
		}
		c := drawnCrash(r)
		least, some, most := d.Left(crash(c.Dir)), d.Left(c), d.Left(api.Crash{Dir: c.Dir, Tails: all().Tails})
		if len(least) != len(some) || len(most) != len(some) {
			t.Fatalf("%q, %q, %q", told(least), told(some), told(most))
		}
		for i, f := range some {
			if f.Name != least[i].Name || f.Name != most[i].Name || !bytes.HasPrefix(f.Bytes, least[i].Bytes) || !bytes.HasPrefix(most[i].Bytes, f.Bytes) {
				t.Fatalf("%q, %q, %q", told(least), told(some), told(most))
			}
		}
	}
}

// P5.11: behind a Sync of every file and a SyncDir, Left is the same for every c.
func TestAllSynced(t *testing.T) {
	r := rand.New(rand.NewSource(72))
	for range 1000 {
		d := busy(t, r, r.Intn(30))
		for _, name := range d.List() {
			ok(t, d.Sync(name))
		}
		ok(t, d.SyncDir())
		want := now(t, d)
		for range 20 {
			leaves(t, d, drawnCrash(r), want)
		}
		d.Arm(1)
		is(t, "Create", d.Create("more"), api.ErrDead)
		leaves(t, d, all(), want)
	}
}

// P5.12: as long as there is power, Left with all changes and all tails is what List and Read tell.
func TestAllIsWhatIsThere(t *testing.T) {
	r := rand.New(rand.NewSource(73))
	for range 1000 {
		d := busy(t, r, 0)
		for range 40 {
			drawnOperation(r, d)
			leaves(t, d, all(), now(t, d))
		}
	}
}

// P5.13: a disk made of what Left answers has just these files, and nothing to lose. (Its room is enough for them: a file that was removed may come back beside what took its room.)
func TestDiskOfWhatIsLeft(t *testing.T) {
	r := rand.New(rand.NewSource(74))
	for range 1000 {
		d := busy(t, r, r.Intn(40))
		if r.Intn(2) == 0 {
			d.Arm(1)
			d.SyncDir()
		}
		files := d.Left(drawnCrash(r))
		next := made(t, 1000, files...)
		if now(t, next) != told(files) || next.Count() != 0 || next.Dead() {
			t.Fatalf("%q, not %q", now(t, next), told(files))
		}
		for range 10 {
			leaves(t, next, drawnCrash(r), told(files))
		}
		for _, f := range files {
			ok(t, next.Append(f.Name, []byte("more")))
		}
		leaves(t, next, api.Crash{}, told(files))
	}
}

// 5.1, P5.9: the room is the directory's as it is, so what a power failure leaves may have more.
func TestLeftMayHaveMoreThanTheRoom(t *testing.T) {
	d := made(t, 6, holds("a", "xyz"), holds("b", "123"))
	ok(t, d.Remove("b"), d.Append("a", []byte("wvu")), d.Sync("a"))
	files := d.Left(api.Crash{})
	if told(files) != "a=xyzwvu b=123" {
		t.Errorf("Left: %q", told(files))
	}
	if next, e := disk.New(files, 6); next != nil || e != api.ErrFull {
		t.Errorf("New: %d", e)
	}
}
