package disk_test

import (
	"bytes"
	"cmp"
	"math/rand"
	"runtime"
	"slices"
	"strings"
	"testing"
	"unsafe"

	"wicket/api"
	"wicket/disk"
)

// span is a piece of memory, from low up to high.
type span struct{ low, high uintptr }

func textSpan(s string) span {
	low := uintptr(unsafe.Pointer(unsafe.StringData(s)))
	return span{low, low + uintptr(len(s))}
}

// listSpan is a list's memory, spare room too.
func listSpan[T any](l []T) span {
	low := uintptr(unsafe.Pointer(unsafe.SliceData(l)))
	var one T
	return span{low, low + uintptr(cap(l))*unsafe.Sizeof(one)}
}

func fileSpans(files []api.File) []span {
	l := []span{listSpan(files)}
	for _, f := range files {
		l = append(l, textSpan(f.Name), listSpan(f.Bytes))
	}
	return l
}

func nameSpans(names []string) []span {
	l := []span{listSpan(names)}
	for _, name := range names {
		l = append(l, textSpan(name))
	}
	return l
}

// apart: do no two of the spans share a byte?
func apart(groups ...[]span) bool {
	all := slices.Concat(groups...)
	all = slices.DeleteFunc(all, func(s span) bool { return s.low == s.high })
	slices.SortFunc(all, func(a, b span) int { return cmp.Compare(a.low, b.low) })
	for i := 1; i < len(all); i++ {
		if all[i].low < all[i-1].high {
			return false
		}
	}
	return true
}

// roomy gives p with spare room behind it, all of it filled, and the whole of that memory.
func roomy(p string) (list, whole []byte) {
	whole = []byte(p + "spare room that nobody may see")
	return whole[:len(p)], whole
}

// scribble turns every byte of a list, spare room too.
func scribble(p []byte) {
	p = p[:cap(p)]
	for i := range p {
		p[i] ^= 0xff
	}
}

// scribbled spoils all that a list of files has, but for its texts.
func scribbled(files []api.File) {
	for i := range files {
		scribble(files[i].Bytes)
	}
	files = files[:cap(files)]
	for i := range files {
		files[i] = holds("scribbled", "scribbled")
	}
}

// Rule 3: arguments are not changed, their spare room neither.
func TestArgumentsAreNotChanged(t *testing.T) {
	one, oneWhole := roomy("xyz")
	two, twoWhole := roomy("12")
	files := []api.File{{Name: "b", Bytes: one}, {Name: "a", Bytes: two}, holds("spare", "room")}
	tails := []int{1, -1, 9, 77, 78}
	kept := []string{string(oneWhole), string(twoWhole)}
	disk.New(files[:2], 4)
	disk.New(files[:2:3], -1)
	d := made(t, 100, files[:2]...)
	for range 5 {
		ok(t, d.Append("a", one), d.Append("b", two), d.Append("a", one[:0]))
		is(t, "Append to none", d.Append("c", one), api.ErrNone)
		d.Left(api.Crash{Dir: 1, Tails: tails[:3]})
	}
	scribbled(d.Left(api.Crash{Tails: tails[:3]}))
	var none *disk.Disk
	none.Append("a", one)
	none.Left(api.Crash{Tails: tails[:3]})
	if string(oneWhole) != kept[0] || string(twoWhole) != kept[1] || told(files) != "b=xyz a=12 spare=room" || !slices.Equal(tails, []int{1, -1, 9, 77, 78}) {
		t.Errorf("changed: %q %q %q %v", oneWhole, twoWhole, told(files), tails)
	}
}

// Rule 3: what was handed in is not kept.
func TestArgumentsAreNotKept(t *testing.T) {
	one, _ := roomy("xyz")
	files := []api.File{{Name: "a", Bytes: one}, holds("b", "12")}
	d := made(t, 100, files...)
	scribbled(files)
	p, _ := roomy("wv")
	ok(t, d.Append("a", p))
	scribble(p)
	ok(t, d.Create("c"))
	first, _ := roomy("first")
	ok(t, d.Append("c", first))
	scribble(first)
	if s := now(t, d); s != "a=xyzwv b=12 c=first" {
		t.Errorf("kept: %q", s)
	}
	leaves(t, d, all(), "a=xyzwv b=12 c=first")
}

// Rule 3: a name that was handed in is not kept: the disk has a text of its own.
func TestNamesAreNotKept(t *testing.T) {
	memory := []byte("abcde")
	name := func(i int) string { return unsafe.String(&memory[i], 1) }
	d := made(t, 100, api.File{Name: name(0), Bytes: []byte("xyz")}, api.File{Name: name(4)})
	ok(t, d.Create(name(1)), d.Rename(name(0), name(2)), d.Create(name(3)), d.Remove(name(3)))
	copy(memory, "~~~~~")
	if s := now(t, d); s != "b= c=xyz e=" {
		t.Errorf("kept: %q", s)
	}
	for dir, want := range []string{"a=xyz e=", "a=xyz b= e=", "b= c=xyz e=", "b= c=xyz d= e=", "b= c=xyz e="} {
		leaves(t, d, crash(dir), want)
	}
	ok(t, d.SyncDir())
	leaves(t, d, crash(0), "b= c=xyz e=")
}

// Rule 3: an answer is new memory: it shares none with an argument, with another answer, within itself, or with what is kept.
func TestAnswersAreNewMemory(t *testing.T) {
	files := []api.File{holds(strings.Clone("beta"), "xyz"), holds(strings.Clone("alpha"), "123456")}
	d := made(t, 100, files...)
	created, p := strings.Clone("gamma"), []byte("tail")
	ok(t, d.Create(created), d.Append(created, p), d.Rename("gamma", "delta"))
	read, _ := d.Read("alpha")
	again, _ := d.Read("alpha")
	tail, _ := d.Read("delta")
	if !apart(fileSpans(files), []span{textSpan(created), listSpan(p)}, []span{listSpan(read), listSpan(again), listSpan(tail)}, nameSpans(d.List()), nameSpans(d.List()), fileSpans(d.Left(all())), fileSpans(d.Left(all())), fileSpans(d.Left(crash(1))), fileSpans(d.Durable()), fileSpans(d.Durable())) {
		t.Error("answers share memory")
	}
	next := made(t, 100, d.Left(all())...)
	if !apart(fileSpans(d.Left(all())), fileSpans(next.Left(all())), nameSpans(d.List()), nameSpans(next.List())) {
		t.Error("answers of two disks share memory")
	}
}

// Rule 3: what is done to an answer is not seen in the next one, nor does what is done behind it reach it.
func TestAnswersAreNobodyElses(t *testing.T) {
	d := made(t, 1000, holds("a", "xyz"), holds("b", ""))
	ok(t, d.Append("a", []byte("w")), d.Append("b", []byte("12")), d.Create("c"))
	was := state(d)
	for range 2 {
		for _, name := range d.List() {
			b, _ := d.Read(name)
			scribble(b)
			_ = append(b, "0123456789"...)
		}
		names := d.List()
		for i := range names[:cap(names)] {
			names[:cap(names)][i] = "scribbled"
		}
		scribbled(d.Left(all()))
		scribbled(d.Left(crash(0, 1)))
		scribbled(d.Durable())
		if s := state(d); s != was {
			t.Fatalf("an answer is seen elsewhere:\n%s", s)
		}
	}
	read, _ := d.Read("a")
	left, names := d.Left(all()), d.List()
	ok(t, d.Append("a", []byte("vu")), d.Remove("b"), d.Rename("a", "z"), d.SyncDir(), d.Append("z", make([]byte, 500)))
	if string(read) != "xyzw" || told(left) != "a=xyzw b=12 c=" || strings.Join(names, ",") != "a,b,c" {
		t.Errorf("answers have changed: %q %q %q", read, told(left), names)
	}
}

// Rule 3: nil and an empty list are the same where they are handed in.
func TestNilIsEmpty(t *testing.T) {
	a, b := made(t, 9, []api.File{}...), made(t, 9)
	for _, d := range []*disk.Disk{a, b} {
		ok(t, d.Create("a"), d.SyncDir(), d.Append("a", []byte("x")))
	}
	ok(t, a.Append("a", nil), b.Append("a", []byte{}))
	if state(a) != state(b) || told(a.Left(api.Crash{Dir: 1, Tails: []int{}})) != told(a.Left(api.Crash{Dir: 1})) {
		t.Error("nil is told from empty")
	}
	c, _ := disk.New([]api.File{{Name: "a", Bytes: []byte{}}}, 0)
	d, _ := disk.New([]api.File{{Name: "a"}}, 0)
	if state(c) != state(d) {
		t.Error("nil bytes are told from empty ones")
	}
}

// Rule 4: spare room is not seen, and two disks to which the same is done answer the same.
func TestAnswersHangOnCallsAlone(t *testing.T) {
	for seed := range int64(80) {
		one, _ := roomy("xyz")
		a := made(t, 100, api.File{Name: "a", Bytes: one}, holds("b", ""))
		b := made(t, 100, holds("a", "xyz"), holds("b", ""))
		r, s := rand.New(rand.NewSource(seed)), rand.New(rand.NewSource(seed))
		for range 30 {
			what, e := drawnOperation(r, a)
			state(a)
			if _, f := drawnOperation(s, b); e != f {
				t.Fatalf("%s: %d and %d", what, e, f)
			}
		}
		if state(a) != state(b) {
			t.Fatalf("two answers:\n%s\n%s", state(a), state(b))
		}
	}
}

// What no power failure can bring back is let go: a disk that lives long does not grow.
func TestWhatIsGoneIsLetGo(t *testing.T) {
	d := made(t, api.MaxFile)
	p := bytes.Repeat([]byte{1}, api.MaxFile)
	var before, behind runtime.MemStats
	runtime.GC()
	runtime.ReadMemStats(&before)
	for range 15 {
		ok(t, d.Create("a"), d.Append("a", p), d.Sync("a"), d.SyncDir(), d.Remove("a"), d.SyncDir())
	}
	for range 15 {
		ok(t, d.Create("a"), d.Append("a", p), d.Remove("a"))
	}
	ok(t, d.SyncDir())
	runtime.GC()
	runtime.ReadMemStats(&behind)
	if int64(behind.HeapAlloc)-int64(before.HeapAlloc) > 4*api.MaxFile {
		t.Errorf("%d bytes are held", behind.HeapAlloc-before.HeapAlloc)
	}
	if len(d.Left(all())) != 0 {
		t.Error("a is there")
	}
	runtime.KeepAlive(p)
}
