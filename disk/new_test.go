package disk_test

import (
	"math"
	"strconv"
	"strings"
	"testing"

	"wicket/api"
	"wicket/disk"
)

// P5.1: what New refuses, and which error is told first.
func TestNewRefuses(t *testing.T) {
	long := strings.Repeat("n", api.MaxFileName+1)
	much := api.File{Name: "much", Bytes: make([]byte, api.MaxFile+1)}
	for _, x := range []struct {
		what  string
		files []api.File
		room  int
		want  api.Errno
	}{
		{"room -1", nil, -1, api.ErrArg},
		{"the least room", nil, math.MinInt, api.ErrArg},
		{"room ahead of too many", make([]api.File, api.MaxFiles+1), -1, api.ErrArg},
		{"room ahead of a name", []api.File{{}}, -1, api.ErrArg},
		{"too many ahead of a name", make([]api.File, api.MaxFiles+1), 0, api.ErrMany},
		{"no name", []api.File{{}}, 0, api.ErrFile},
		{"a long name", []api.File{holds(long, "")}, 0, api.ErrFile},
		{"a great letter", []api.File{holds("a", ""), holds("A", "")}, 0, api.ErrFile},
		{"twice", []api.File{holds("a", ""), holds("b", ""), holds("a", "")}, 0, api.ErrTwice},
		{"twice no name", []api.File{holds("A", ""), holds("A", "")}, 0, api.ErrFile},
		{"much", []api.File{much}, math.MaxInt, api.ErrLong},
		{"a name ahead of much", []api.File{{Name: "M", Bytes: much.Bytes}}, math.MaxInt, api.ErrFile},
		{"twice ahead of much", []api.File{holds("much", ""), much}, math.MaxInt, api.ErrTwice},
		{"much ahead of the next one's name", []api.File{much, {}}, math.MaxInt, api.ErrLong},
		{"much ahead of twice", []api.File{much, much}, math.MaxInt, api.ErrLong},
		{"a name ahead of the next one's much", []api.File{{}, much}, math.MaxInt, api.ErrFile},
		{"much ahead of the room", []api.File{much}, 5, api.ErrLong},
		{"twice ahead of the room", []api.File{holds("a", "xyz"), holds("a", "")}, 2, api.ErrTwice},
		{"a name ahead of the room", []api.File{holds("a", "xyz"), holds("A", "")}, 2, api.ErrFile},
		{"one too much for the room", []api.File{holds("a", "xyz")}, 2, api.ErrFull},
		{"all too much for the room", []api.File{holds("a", "xyz"), holds("b", ""), holds("c", "w")}, 3, api.ErrFull},
		{"no room", []api.File{holds("a", "x")}, 0, api.ErrFull},
	} {
		if d, e := disk.New(x.files, x.room); d != nil || e != x.want {
			t.Errorf("%s: %v %d, not %d", x.what, d, e, x.want)
		}
	}
}

// P5.1: what New takes: these files, all synced, the directory durable, no operation done.
func TestNewTakes(t *testing.T) {
	d := made(t, 9, holds("b", "xyz"), holds("a", ""), holds("c", "w"))
	if s := now(t, d); s != "a= b=xyz c=w" || d.Free() != 5 || d.Count() != 0 || d.Dead() {
		t.Errorf("%q, Free %d, Count %d, Dead %v", s, d.Free(), d.Count(), d.Dead())
	}
	for _, c := range []api.Crash{{}, crash(-1), crash(1, 1, 1, 1), all()} {
		leaves(t, d, c, "a= b=xyz c=w")
	}
	none := made(t, 0)
	if len(none.List()) != 0 || none.Free() != 0 || len(none.Durable()) != 0 || none.Count() != 0 {
		t.Error("a disk without room")
	}
	if d := made(t, 4, holds("a", "xyz"), holds("b", "w")); d.Free() != 0 || now(t, d) != "a=xyz b=w" {
		t.Errorf("a disk that is just full: Free %d", d.Free())
	}
	if made(t, math.MaxInt, holds("a", "xyz")).Free() != math.MaxInt-3 {
		t.Error("the greatest room")
	}
}

// P5.1: the limits of a directory's files and of a file's bytes.
func TestNewLimits(t *testing.T) {
	d := full(t)
	if len(d.List()) != api.MaxFiles || len(d.Durable()) != api.MaxFiles {
		t.Errorf("%d files, not %d", len(d.List()), api.MaxFiles)
	}
	d = made(t, api.MaxFile, api.File{Name: "a", Bytes: make([]byte, api.MaxFile)})
	if b, e := d.Read("a"); len(b) != api.MaxFile || e != api.OK || d.Free() != 0 {
		t.Errorf("%d bytes, %d", len(b), e)
	}
}

// P5.1: files are numbered in their order, not by their names, and the next number is the one behind.
func TestNewNumbers(t *testing.T) {
	d := made(t, 100, holds("c", ""), holds("a", ""), holds("b", ""))
	ok(t, d.Create("d"), d.SyncDir())
	for _, name := range []string{"a", "b", "c", "d"} {
		ok(t, d.Append(name, []byte("xyzw")))
	}
	leaves(t, d, crash(0, 1, 2, 3, 4), "a=xy b=xyz c=x d=xyzw")
}

// The chapter's head: what a file's name is, wherever one is given.
func TestNames(t *testing.T) {
	const letters = "abcdefghijklmnopqrstuvwxyz0123456789.-_"
	names := map[string]bool{"": false, "..": true, "wal-1": true, "ä": false, "a\x00": false, "temp ": false}
	for c := range 256 {
		there := strings.IndexByte(letters, byte(c)) >= 0
		names[string([]byte{byte(c)})] = there
		names["a"+string([]byte{byte(c)})] = there
		names[string([]byte{byte(c)})+"a"] = there
		names["a"+string([]byte{byte(c)})+"a"] = there
	}
	for n := 1; n <= 2*api.MaxFileName; n++ {
		names[strings.Repeat("z", n)] = n <= api.MaxFileName
	}
	for name, good := range names {
		want := api.ErrFile
		if good {
			want = api.OK
		}
		_, e := disk.New([]api.File{{Name: name}}, 0)
		is(t, "New of "+strconv.Quote(name), e, want)
		is(t, "Create "+strconv.Quote(name), made(t, 0).Create(name), want)
		is(t, "Rename to "+strconv.Quote(name), made(t, 0, holds("other", "")).Rename("other", name), want)
	}
}
