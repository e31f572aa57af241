package wal_test

import (
	"cmp"
	"runtime"
	"slices"
	"strings"
	"testing"
	"unsafe"

	"wicket/api"
	"wicket/wal"
)

// span is a piece of memory, from low up to high.
type span struct{ low, high uintptr }

// listSpan is a list's memory, spare room too.
func listSpan[T any](l []T) span {
	low := uintptr(unsafe.Pointer(unsafe.SliceData(l)))
	var one T
	return span{low, low + uintptr(cap(l))*unsafe.Sizeof(one)}
}

func recordSpans(records [][]byte) []span {
	l := []span{listSpan(records)}
	for _, r := range records {
		l = append(l, listSpan(r))
	}
	return l
}

// apart: do no two of the spans share a byte?
func apart(groups ...[]span) bool {
	all := slices.Concat(groups...)
	all = slices.DeleteFunc(all, func(s span) bool { return s.low == s.high })
	slices.SortFunc(all, func(a, b span) int { return cmp.Compare(a.low, b.low) })
	for i := 1; i < len(all); i++ {
		if all[i].low < all[i-1].high {
			return false
		}
	}
	return true
}

// Rule 3: arguments are not changed, their spare room neither, whatever the answer is.
func TestArgumentsAreNotChanged(t *testing.T) {
	p, pWhole := spared("record")
	s, sWhole := spared("state")
	long, longWhole := spared(strings.Repeat("l", api.MaxState+1))
	was := []string{string(pWhole), string(sWhole), string(longWhole)}
	d, l := begun(t, 1000)
	_, small := begun(t, 20)
	var none *wal.Log
	for range 3 {
		ok(t, l.Append(p), l.Sync(), l.Append(p[:0]), l.Snapshot(s), l.Append(p), l.Snapshot(s[:0]))
		is(t, "Append", small.Append(p), api.ErrFull)
		is(t, "Snapshot", small.Snapshot(s), api.ErrFull)
		is(t, "Append", l.Append(long), api.ErrLong)
		is(t, "Snapshot", l.Snapshot(long), api.ErrLong)
		ok(t, none.Append(p), none.Snapshot(s))
		scribble(l.State())
		for _, r := range l.Records() {
			scribble(r)
		}
	}
	d.Arm(1)
	is(t, "Append", l.Append(p), api.ErrDead)
	is(t, "Append", l.Append(p), api.ErrBroken)
	is(t, "Snapshot", l.Snapshot(s), api.ErrBroken)
	if string(pWhole) != was[0] || string(sWhole) != was[1] || string(longWhole) != was[2] {
		t.Errorf("changed: %q %q", pWhole, sWhole)
	}
}

// Rule 3: what was handed in is not kept.
func TestArgumentsAreNotKept(t *testing.T) {
	d, l := begun(t, 1000)
	s, _ := spared("state")
	ok(t, l.Snapshot(s))
	scribble(s)
	one, _ := spared("one")
	two, _ := spared("two")
	ok(t, l.Append(one), l.Append(two), l.Append(one[:0]))
	scribble(one)
	scribble(two)
	tells(t, l, 2, 0, "state", "one", "two", "")
	ok(t, l.Sync())
	has(t, d, generation(2, "", "state", "one", "two", ""))
	tells(t, opened(t, d), 2, 0, "state", "one", "two", "")
}

// Rule 3: an answer is new memory: it shares none with an argument, with another answer, within itself, or with what is kept.
func TestAnswersAreNewMemory(t *testing.T) {
	state, record := []byte("state"), []byte("record")
	d, l := begun(t, 1000)
	ok(t, l.Snapshot(state), l.Append(record), l.Append(record), l.Append([]byte("a longer record, of more bytes")), l.Sync())
	file, _ := d.Read("wal-2")
	given := []span{listSpan(state), listSpan(record), listSpan(file)}
	for range 2 {
		states := []span{listSpan(l.State()), listSpan(l.State())}
		if !apart(given, states, recordSpans(l.Records()), recordSpans(l.Records())) {
			t.Error("answers share memory")
		}
		m := opened(t, d)
		if !apart(given, states, []span{listSpan(m.State())}, recordSpans(l.Records()), recordSpans(m.Records()), recordSpans(m.Records())) {
			t.Error("answers of two logs share memory")
		}
		l = m
	}
}

// Rule 3: what is done to an answer is not seen in the next one, on the disk neither; nor does what is done behind it reach it.
func TestAnswersAreNobodyElses(t *testing.T) {
	d := diskOf(t, 1000, generation(3, "torn", "state", "one", "", "two"))
	for range 2 {
		l := opened(t, d)
		ok(t, l.Append([]byte("three")))
		was := lookOf(l)
		for range 2 {
			s := l.State()
			scribble(s)
			_ = append(s, "more"...)
			list := l.Records()
			for _, r := range list {
				scribble(r)
				_ = append(r, "more"...)
			}
			for i := range list[:cap(list)] {
				list[:cap(list)][i] = []byte("scribbled")
			}
			if lookOf(l) != was {
				t.Fatalf("an answer is seen elsewhere: %s", lookOf(l))
			}
		}
		ok(t, l.Sync())
		if m := opened(t, d); saidOf(m) != saidOf(l) {
			t.Fatalf("an answer is seen on the disk: %s", saidOf(m))
		}
		s, list := l.State(), l.Records()
		ok(t, l.Append([]byte("four")), l.Snapshot([]byte("other")), l.Append([]byte("five")))
		if string(s) != "state" || len(list) != 4 || string(list[0]) != "one" || string(list[3]) != "three" {
			t.Fatalf("answers have changed: %q %q", s, list)
		}
		d = diskOf(t, 1000, generation(4, "", "state", "one", "", "two"))
	}
}

// Rule 3: nil and an empty list are the same where they are handed in; rule 4: spare room is not seen.
func TestNilIsEmpty(t *testing.T) {
	a, l := begun(t, 1000)
	b, m := begun(t, 1000)
	p, _ := spared("record")
	ok(t, l.Append(nil), m.Append([]byte{}), l.Append(p), m.Append([]byte("record")))
	if stateOf(a) != stateOf(b) || lookOf(l) != lookOf(m) {
		t.Error("nil is told from empty")
	}
	ok(t, l.Snapshot(nil), m.Snapshot(p[:0]))
	if stateOf(a) != stateOf(b) || lookOf(l) != lookOf(m) {
		t.Error("a nil state is told from an empty one")
	}
}

// Rule 4: two logs do not know of each other.
func TestTwoLogs(t *testing.T) {
	_, l := begun(t, 1000)
	d, m := begun(t, 1000)
	ok(t, l.Append([]byte("a")), m.Snapshot([]byte("S")), l.Append([]byte("b")), m.Append([]byte("c")))
	d.Arm(1)
	is(t, "Sync", m.Sync(), api.ErrDead)
	tells(t, l, 1, 0, "", "a", "b")
	if lookOf(m) != said("S", "c")+" 2 1 0 true" {
		t.Errorf("the other tells %s", lookOf(m))
	}
}

// What is behind a snapshot is let go: a log that lives long does not grow.
func TestWhatIsGoneIsLetGo(t *testing.T) {
	d, l := begun(t, roomy)
	var before, behind runtime.MemStats
	runtime.GC()
	runtime.ReadMemStats(&before)
	for range 10 {
		for range 20 {
			ok(t, l.Append(make([]byte, api.MaxRecord)))
		}
		ok(t, l.Snapshot(make([]byte, api.MaxState)))
	}
	ok(t, l.Snapshot(nil))
	runtime.GC()
	runtime.ReadMemStats(&behind)
	if int64(behind.HeapAlloc)-int64(before.HeapAlloc) > api.MaxState {
		t.Errorf("%d bytes are held", behind.HeapAlloc-before.HeapAlloc)
	}
	runtime.KeepAlive(d)
	runtime.KeepAlive(l)
}
