package store_test

import (
	"cmp"
	"runtime"
	"slices"
	"strings"
	"testing"
	"unsafe"

	"wicket/api"
	"wicket/store"
)

// span is a piece of memory, from low up to high.
type span struct{ low, high uintptr }

// room is a list's memory, with its spare room.
func room[T any](l []T) span {
	var one T
	low := uintptr(unsafe.Pointer(unsafe.SliceData(l)))
	return span{low, low + uintptr(cap(l))*unsafe.Sizeof(one)}
}

func spansOf(l ...api.Pending) []span {
	var list []span
	for _, p := range l {
		for _, s := range []string{p.Client, p.Handle, p.Code, p.Scope, p.Subject, p.Message, p.Notify} {
			low := uintptr(unsafe.Pointer(unsafe.StringData(s)))
			list = append(list, span{low, low + uintptr(len(s))})
		}
	}
	return list
}

func spansOfRows(r api.Rows) []span {
	return append(spansOf(r.Pending...), room(r.Pending))
}

func spansOfChanges(l []api.Change) []span {
	list := []span{room(l)}
	for _, c := range l {
		list = append(list, spansOf(c.Pending)...)
	}
	return list
}

// apart: do no two of the spans share a byte?
func apart(groups ...[]span) bool {
	all := slices.Concat(groups...)
	all = slices.DeleteFunc(all, func(s span) bool { return s.low == s.high })
	slices.SortFunc(all, func(a, b span) int { return cmp.Compare(a.low, b.low) })
	for i := 1; i < len(all); i++ {
		if all[i].low < all[i-1].high {
			return false
		}
	}
	return true
}

// memory is bytes that texts lie over, so that they can be written into.
type memory [][]byte

func (m *memory) own(s string) string {
	p := []byte(s)
	*m = append(*m, p)
	return unsafe.String(unsafe.SliceData(p), len(p))
}

// row is p over memory of its own.
func (m *memory) row(p api.Pending) api.Pending {
	p.Client, p.Handle, p.Code = m.own(p.Client), m.own(p.Handle), m.own(p.Code)
	p.Scope, p.Subject, p.Message, p.Notify = m.own(p.Scope), m.own(p.Subject), m.own(p.Message), m.own(p.Notify)
	return p
}

// rows have spare room with something in it.
func (m *memory) rows(l ...api.Pending) api.Rows {
	var r api.Rows
	for _, p := range l {
		r.Pending = append(r.Pending, m.row(p))
	}
	r.Pending = append(r.Pending, m.row(tv(77)), m.row(box(78)))[:len(l)]
	return r
}

// changes have spare room with something in it.
func (m *memory) changes(l ...api.Change) []api.Change {
	var own []api.Change
	for _, c := range l {
		c.Pending = m.row(c.Pending)
		own = append(own, c)
	}
	return append(own, drop(77), add(m.row(tv(78))))[:len(l)]
}

// scribble turns every byte that the texts lie over.
func (m *memory) scribble() {
	for _, p := range *m {
		for i := range p {
			p[i] ^= 0xff
		}
	}
}

// deep is a copy of all that a list has, its spare room too.
func deep(l []api.Pending) []api.Pending {
	var m memory
	var list []api.Pending
	for _, p := range l[:cap(l)] {
		list = append(list, m.row(p))
	}
	return list
}

func deepChanges(l []api.Change) []api.Change {
	var m memory
	var list []api.Change
	for _, c := range l[:cap(l)] {
		c.Pending = m.row(c.Pending)
		list = append(list, c)
	}
	return list
}

// spared gives b with spare room behind it, all of it filled, and the whole of that memory.
func spared(b string) (list, whole []byte) {
	whole = []byte(b + "spare room that nobody may see")
	return whole[:len(b)], whole
}

// wipe writes over a list and its spare room.
func wipe(l []api.Pending) {
	for i := range l[:cap(l)] {
		l[:cap(l)][i] = api.Pending{Number: 1, Client: "wiped"}
	}
}

// Rule 3: what is put shares no memory with what is put of it before or behind, nor with what was handed in, which stays as it is.
func TestPutIsNewMemory(t *testing.T) {
	var m memory
	r := m.rows(tv(1), till(2), box(3))
	l := m.changes(add(tv(1)), alter(box(3)), drop(1), mark(1, 2))
	wasRows, wasChanges := deep(r.Pending), deepChanges(l)
	var spans [][]span
	var all []string
	var lists [][]byte
	for range 2 {
		a, e1 := store.PutPending(r.Pending[2])
		b, e2 := store.PutChanges(l)
		c, e3 := store.PutRows(r)
		ok(t, e1, e2, e3)
		lists = append(lists, a, b, c)
		all = append(all, string(a), string(b), string(c))
		spans = append(spans, []span{room(a), room(b), room(c)})
	}
	store.PutRows(api.Rows{Pending: m.rows(tv(2), tv(1)).Pending})
	store.PutChanges(m.changes(add(tv(1)), drop(1), add(tv(0))))
	if !slices.Equal(deep(r.Pending), wasRows) || !slices.Equal(deepChanges(l), wasChanges) {
		t.Error("what was handed in has changed")
	}
	if !apart(append(spans, spansOfRows(r), spansOfChanges(l))...) {
		t.Error("what is put shares memory")
	}
	m.scribble()
	wipe(r.Pending)
	for i, b := range lists {
		if string(b) != all[i] {
			t.Error("what was put has changed")
		}
		for k := range b[:cap(b)] {
			b[:cap(b)][k] = 0
		}
		for k := i + 1; k < len(lists); k++ {
			if string(lists[k]) != all[k] {
				t.Error("what was put has changed with other bytes")
			}
		}
	}
}

// Rule 3: what is read shares no memory with the bytes, which stay as they are.
func TestReadIsNewMemory(t *testing.T) {
	p := with(box(3), func(p *api.Pending) { p.Scope = "more" })
	rowIn, rowWhole := spared(rowBytes(p))
	changesIn, changesWhole := spared(changesBytes(add(p), alter(tv(1)), drop(7)))
	rowsIn, rowsWhole := spared(rowsBytes(rows(tv(1), till(2), p)))
	was := []string{string(rowWhole), string(changesWhole), string(rowsWhole)}
	q, _, e1 := store.Pending(rowIn)
	q2, _, _ := store.Pending(rowIn)
	l, e2 := store.Changes(changesIn)
	l2, _ := store.Changes(changesIn)
	r, e3 := store.Rows(rowsIn)
	r2, _ := store.Rows(rowsIn)
	ok(t, e1, e2, e3)
	if string(rowWhole) != was[0] || string(changesWhole) != was[1] || string(rowsWhole) != was[2] {
		t.Error("the bytes have changed")
	}
	given := []span{room(rowWhole), room(changesWhole), room(rowsWhole)}
	if !apart(given, spansOf(q, q2), spansOfChanges(l), spansOfChanges(l2), spansOfRows(r), spansOfRows(r2)) {
		t.Error("what is read shares memory")
	}
	for _, b := range [][]byte{rowWhole, changesWhole, rowsWhole} {
		for i := range b {
			b[i] ^= 0xff
		}
	}
	wipe(r2.Pending)
	if q != p || !slices.Equal(l, []api.Change{add(p), alter(tv(1)), drop(7)}) || !same(r, rows(tv(1), till(2), p)) {
		t.Error("what was read has changed")
	}
}

// Rule 3: Apply changes neither the rows nor the changes, and its answer shares no memory with them.
func TestAppliedIsNewMemory(t *testing.T) {
	var m memory
	r := m.rows(tv(1), till(3), box(9))
	l := m.changes(add(tv(2)), drop(1), alter(approved(till(3))), add(twin(1, 1, 1)), mark(3, 4), drop(9))
	wasRows, wasChanges := deep(r.Pending), deepChanges(l)
	wasSpans := append(spansOfRows(r), spansOfChanges(l)...)
	want := api.Rows{Pending: []api.Pending{tv(1), tv(2), approved(till(3))}, Marks: [8]uint64{3: 4}}
	first, e1, _ := store.Apply(r, 9, l)
	second, e2, _ := store.Apply(r, 9, l)
	ok(t, e1, e2)
	store.Apply(r, 9, m.changes(drop(1), drop(9), add(tv(5)), add(tv(5))))
	store.Apply(r, 2, l)
	marked, e3, _ := store.Apply(r, 9, []api.Change{mark(0, 1)})
	ok(t, e3)
	if !slices.Equal(deep(r.Pending), wasRows) || !slices.Equal(deepChanges(l), wasChanges) || !slices.Equal(append(spansOfRows(r), spansOfChanges(l)...), wasSpans) {
		t.Error("what was handed in has changed")
	}
	if !apart(spansOfRows(r), spansOfChanges(l), spansOfRows(first), spansOfRows(second), spansOfRows(marked)) {
		t.Error("the answer shares memory")
	}
	m.scribble()
	wipe(r.Pending)
	wipe(second.Pending)
	if !same(first, want) || !slices.Equal(marked.Pending, []api.Pending{tv(1), till(3), box(9)}) {
		t.Error("the answer has changed")
	}
}

// Rule 3: a store neither changes nor keeps what it is handed.
func TestStoreKeepsNoArguments(t *testing.T) {
	d, s := begun(t, roomy, 9)
	want := api.Rows{}
	for _, changes := range [][]api.Change{{add(tv(1)), add(till(2))}, {add(box(3)), alter(approved(tv(1))), mark(0, 3)}, {drop(1), alter(till(2)), add(tv(1))}} {
		var m memory
		own := m.changes(changes...)
		was, wasSpans := deepChanges(own), spansOfChanges(own)
		does(t, s, own...)
		want, _, _ = store.Apply(want, 9, changes)
		if !slices.Equal(deepChanges(own), was) || !slices.Equal(spansOfChanges(own), wasSpans) {
			t.Error("the changes have changed")
		}
		m.scribble()
		for i := range own[:cap(own)] {
			own[:cap(own)][i] = drop(9)
		}
		has(t, s, want)
		has(t, opened(t, diskOf(t, roomy, d.Durable()...), 9), want)
	}
	ok(t, s.Compact())
	has(t, s, want)
	has(t, opened(t, diskOf(t, roomy, d.Durable()...), 9), want)
	var m memory
	h, c, name := m.own(handle(1)), m.own(code(1)), m.own("tv")
	s.Handle(h)
	s.Code(c)
	s.Client(name)
	m.scribble()
	s.Handle(h)
	s.Code(c)
	s.Client(name)
	has(t, s, want)
}

// Rule 3: a Do that is refused, or has an error of the log, changes and keeps nothing either.
func TestRefusedChangesAreNotKept(t *testing.T) {
	d, s := begun(t, roomy, 9)
	does(t, s, add(tv(1)), add(till(2)))
	var m memory
	l := m.changes(alter(approved(tv(1))), drop(2), add(box(3)), drop(9))
	was, wasSpans := deepChanges(l), spansOfChanges(l)
	refuses(t, d, s, api.ErrNone, 3, l...)
	d.Arm(1)
	if e, _ := s.Do(l[:3]...); e != api.ErrDead {
		t.Fatalf("Do: %d", e)
	}
	if !slices.Equal(deepChanges(l), was) || !slices.Equal(spansOfChanges(l), wasSpans) {
		t.Error("the changes have changed")
	}
	m.scribble()
	has(t, s, rows(tv(1), till(2)))
}

// Rule 3: what a store answers is new memory.
func TestAnswersAreNewMemory(t *testing.T) {
	d, s := begun(t, roomy, 9)
	want := rows(tv(1), till(2), box(3), tv(4))
	var m memory
	l := m.changes(add(tv(1)), add(till(2)), add(box(3)), add(tv(4)))
	does(t, s, l...)
	for range 2 {
		groups := [][]span{spansOfChanges(l)}
		var lists [][]api.Pending
		for range 2 {
			r, c := s.All(), s.Client("tv")
			a, _ := s.Number(1)
			b, _ := s.Handle(handle(1))
			e, _ := s.Code(code(1))
			groups = append(groups, spansOfRows(r), spansOfRows(api.Rows{Pending: c}), spansOf(a, b, e))
			lists = append(lists, r.Pending, c)
		}
		if !apart(groups...) {
			t.Error("answers share memory")
		}
		for _, l := range lists {
			wipe(l)
			has(t, s, want)
		}
		s = opened(t, d, 9)
	}
}

// Rule 3: what is done behind an answer does not reach it.
func TestAnswersStay(t *testing.T) {
	_, s := begun(t, roomy, 9)
	does(t, s, add(tv(1)), add(till(2)), add(tv(4)))
	r, c := s.All(), s.Client("tv")
	does(t, s, alter(approved(tv(1))), drop(4), add(tv(3)), mark(0, 1))
	ok(t, s.Compact())
	if !same(r, rows(tv(1), till(2), tv(4))) || !slices.Equal(c, []api.Pending{tv(1), tv(4)}) {
		t.Error("answers have changed")
	}
}

// Rules 3 and 4: spare room is not seen, and nil is as an empty list.
func TestSpareRoomIsNotSeen(t *testing.T) {
	l := []api.Change{drop(1), drop(2), {Kind: 9}}
	if b, e := store.PutChanges(l[:1]); e != api.OK || string(b) != changesBytes(drop(1)) {
		t.Errorf("PutChanges: %q, %d", b, e)
	}
	notPut(t, "empty", api.ErrChange, l[:0]...)
	twice := []api.Pending{tv(1), tv(1)}
	areRight(t, "spare room", api.Rows{Pending: twice[:1]})
	areRight(t, "an empty list", api.Rows{Pending: twice[:0]})
	becomes(t, "spare room", api.Rows{Pending: twice[:1]}, 1, api.Rows{Pending: []api.Pending{tv(1)}, Marks: [8]uint64{1}}, mark(0, 1))
	becomes(t, "an empty list", api.Rows{Pending: []api.Pending{}}, 1, api.Rows{Marks: [8]uint64{1}}, mark(0, 1))
	b := []byte(rowsBytes(rows(tv(1))) + "more")
	noRows(t, "", string(b[:0]), api.ErrShort)
	for n := range 5 {
		if r, e := store.Rows(b[:len(b)-4+n]); (e == api.OK) != (n == 0) || n == 0 && !same(r, rows(tv(1))) {
			t.Errorf("%d", e)
		}
	}
	noChanges(t, "nil", "", api.ErrShort)
	if _, e := store.Changes(nil); e != api.ErrShort {
		t.Errorf("Changes: %d", e)
	}
	if _, _, e := store.Pending(nil); e != api.ErrShort {
		t.Errorf("Pending: %d", e)
	}
	if _, e := store.Rows(nil); e != api.ErrShort {
		t.Errorf("Rows: %d", e)
	}
}

// What is dropped is let go: a store that lives long does not grow.
func TestWhatIsDroppedIsLetGo(t *testing.T) {
	d, s := begun(t, roomy, 9)
	var before, behind runtime.MemStats
	runtime.GC()
	runtime.ReadMemStats(&before)
	for i := range uint64(3000) {
		p := tv(i + 1)
		p.Client, p.Scope = "c"+strings.Repeat("x", int(i%60)), strings.Repeat("s", 250)
		does(t, s, add(p))
		does(t, s, drop(i+1))
	}
	ok(t, s.Compact())
	runtime.GC()
	runtime.ReadMemStats(&behind)
	if grown := int64(behind.HeapAlloc) - int64(before.HeapAlloc); grown > 100000 {
		t.Errorf("%d bytes are held", grown)
	}
	runtime.KeepAlive(d)
	runtime.KeepAlive(s)
}
