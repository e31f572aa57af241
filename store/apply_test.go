package store_test

import (
	"math"
	"slices"
	"testing"

	"wicket/api"
	"wicket/store"
)

func becomes(t *testing.T, what string, r api.Rows, most int, want api.Rows, changes ...api.Change) {
	t.Helper()
	got, e, at := store.Apply(r, most, changes)
	if e != api.OK || at != 0 || !same(got, want) {
		t.Errorf("%s: %d, %d:\n%s\nnot\n%s", what, e, at, said(got), said(want))
	}
}

func notApplied(t *testing.T, what string, r api.Rows, most int, want api.Errno, wantAt int, changes ...api.Change) {
	t.Helper()
	got, e, at := store.Apply(r, most, changes)
	if e != want || at != wantAt || !same(got, api.Rows{}) {
		t.Errorf("%s: %d, %d, %s, not %d, %d", what, e, at, said(got), want, wantAt)
	}
}

// twin is row n with what others have.
func twin(n, handleOf, codeOf uint64) api.Pending {
	p := tv(n)
	p.Handle, p.Code = handle(handleOf), code(codeOf)
	return p
}

func approved(p api.Pending) api.Pending {
	p.Status = 2
	return p
}

// P12.4: the chapter's examples.
func TestExampleApply(t *testing.T) {
	p := tv(1)
	none := api.Rows{}
	becomes(t, "{Add R}", none, 2, rows(p), add(p))
	notApplied(t, "{Add R, Add R}", none, 2, api.ErrThere, 1, add(p), add(p))
	notApplied(t, "a handle", none, 2, api.ErrHandle, 1, add(p), add(twin(2, 1, 1)))
	notApplied(t, "a code", none, 2, api.ErrUserCode, 1, add(p), add(twin(2, 2, 1)))
	notApplied(t, "{Alter R}", none, 2, api.ErrNone, 0, alter(p))
	becomes(t, "{Add R, Alter R}", none, 2, rows(approved(p)), add(p), alter(approved(p)))
	notApplied(t, "Scope x", none, 2, api.ErrFixed, 1, add(p), alter(with(p, func(p *api.Pending) { p.Scope = "x" })))
	notApplied(t, "{Add R, Drop 1, Drop 1}", none, 2, api.ErrNone, 2, add(p), drop(1), drop(1))
}

// P12.4: ErrArg is told ahead of all else, then ErrRows, then what is wrong with the changes.
func TestOrderOfApply(t *testing.T) {
	wrong := []api.Change{mark(8, 0)}
	odd := rows(tv(2), tv(1))
	for _, most := range []int{0, -1, 1025, math.MaxInt, math.MinInt} {
		for _, r := range []api.Rows{{}, odd, rows(tv(1))} {
			notApplied(t, "most", r, most, api.ErrArg, 0)
			notApplied(t, "most", r, most, api.ErrArg, 0, wrong...)
			notApplied(t, "most", r, most, api.ErrArg, 0, drop(1), drop(9))
		}
	}
	for _, changes := range [][]api.Change{nil, wrong, {drop(9)}, {mark(0, 1)}} {
		for _, r := range []api.Rows{odd, rows(api.Pending{}), rows(tv(1), twin(2, 1, 2)), rows(tv(1), twin(2, 2, 1)), rows(tv(1), tv(1)), rows(tvs(1025)...)} {
			notApplied(t, "no right rows", r, 1024, api.ErrRows, 0, changes...)
		}
		notApplied(t, "more than most", rows(tvs(2)...), 1, api.ErrRows, 0, changes...)
		notApplied(t, "more than most", rows(tvs(1024)...), 1023, api.ErrRows, 0, changes...)
	}
	notApplied(t, "more than most, and dropped", rows(tvs(2)...), 1, api.ErrRows, 0, drop(1))
	for _, c := range []struct {
		want api.Errno
		l    []api.Change
	}{
		{api.ErrChange, nil},
		{api.ErrChange, []api.Change{}},
		{api.ErrChange, marks(65)},
		{api.ErrChange, []api.Change{drop(9), {Kind: 5}}},
		{api.ErrPending, []api.Change{drop(9), add(tv(0))}},
		{api.ErrPending, []api.Change{alter(tv(9)), alter(tv(0))}},
		{api.ErrMark, []api.Change{mark(0, 1), add(tv(1)), mark(8, 0)}},
		{api.ErrMark, []api.Change{mark(-1, 0)}},
	} {
		notApplied(t, "wrong changes", rows(tv(1)), 1, c.want, 0, c.l...)
	}
}

// P12.4: of what is wrong with an Add the first is told.
func TestOrderOfAdd(t *testing.T) {
	r := rows(tv(1), till(2), tv(3))
	for _, most := range []int{3, 4} {
		notApplied(t, "number, handle and code", r, most, api.ErrThere, 0, add(tv(1)))
		notApplied(t, "number alone", r, most, api.ErrThere, 0, add(tv(2)))
		notApplied(t, "number and the handle of another", r, most, api.ErrThere, 0, add(twin(2, 1, 3)))
		notApplied(t, "number and the code of another", r, most, api.ErrThere, 0, add(twin(1, 9, 3)))
		notApplied(t, "handle and code", r, most, api.ErrHandle, 0, add(twin(9, 1, 3)))
		notApplied(t, "handle alone", r, most, api.ErrHandle, 0, add(twin(9, 2, 9)))
		notApplied(t, "the handle of another flow", r, most, api.ErrHandle, 0, add(with(box(9), func(p *api.Pending) { p.Handle = handle(1) })))
		notApplied(t, "code", r, most, api.ErrUserCode, 0, add(twin(9, 9, 3)))
	}
	notApplied(t, "full", r, 3, api.ErrFull, 0, add(tv(9)))
	notApplied(t, "full", r, 3, api.ErrFull, 0, add(till(9)))
	becomes(t, "not full", r, 4, rows(tv(1), till(2), tv(3), tv(9)), add(tv(9)))
	becomes(t, "no code twice", r, 5, rows(tv(1), till(2), tv(3), till(8), box(9)), add(box(9)), add(till(8)))
	notApplied(t, "full by the changes", api.Rows{}, 2, api.ErrFull, 2, add(tv(1)), add(tv(2)), add(tv(3)))
}

// P12.4: a handle, a code, a number and a place are free again behind a Drop, and not ahead of it.
func TestWhatADropLetsGo(t *testing.T) {
	r := rows(tv(1), tv(2))
	becomes(t, "the same again", r, 2, r, drop(1), add(tv(1)))
	becomes(t, "the number", r, 2, rows(twin(1, 8, 9), tv(2)), drop(1), add(twin(1, 8, 9)))
	becomes(t, "handle and code", r, 2, rows(tv(2), twin(7, 1, 1)), drop(1), add(twin(7, 1, 1)))
	becomes(t, "handle and code of one another", r, 2, rows(twin(1, 2, 2), twin(2, 1, 1)), drop(1), drop(2), add(twin(2, 1, 1)), add(twin(1, 2, 2)))
	notApplied(t, "ahead of it", r, 2, api.ErrThere, 0, add(tv(1)), drop(1))
	notApplied(t, "ahead of it", r, 3, api.ErrHandle, 0, add(twin(7, 1, 7)), drop(1))
	notApplied(t, "ahead of it", r, 3, api.ErrUserCode, 0, add(twin(7, 7, 1)), drop(1))
	notApplied(t, "ahead of it", r, 2, api.ErrFull, 0, add(tv(7)), drop(1))
	notApplied(t, "those of the other", r, 2, api.ErrHandle, 1, drop(1), add(twin(7, 2, 7)))
	notApplied(t, "those of the other", r, 2, api.ErrUserCode, 1, drop(1), add(twin(7, 7, 2)))
	becomes(t, "nothing", r, 2, api.Rows{}, drop(2), drop(1))
}

// P12.4: rows rise by number, whatever comes when.
func TestAppliedRowsRise(t *testing.T) {
	r := rows(tv(2), till(1<<40))
	becomes(t, "around", r, 9, rows(box(1), tv(2), tv(3), till(1<<40), box(math.MaxUint64)), add(box(math.MaxUint64)), add(tv(3)), add(box(1)))
	var changes []api.Change
	for i := range 64 {
		changes = append(changes, add(tv(uint64(64-i*37%64))))
	}
	becomes(t, "64 in no order", api.Rows{}, 64, rows(tvs(64)...), changes...)
}

// P12.4: what an Alter may change, and what it may not.
func TestAlter(t *testing.T) {
	p := box(5)
	for what, change := range map[string]func(p *api.Pending){
		"Subject":      func(p *api.Pending) { p.Subject = "eve" },
		"no Subject":   func(p *api.Pending) { p.Subject = "" },
		"Interval":     func(p *api.Pending) { p.Interval = 99 },
		"Polled":       func(p *api.Pending) { p.Asked, p.Polled = true, 400 },
		"Asked":        func(p *api.Pending) { p.Asked = true },
		"Status":       func(p *api.Pending) { p.Status = 1 },
		"Ping":         func(p *api.Pending) { p.Ping = 3 },
		"no Ping":      func(p *api.Pending) { p.Ping, p.Tries, p.Due = 0, 0, 0 },
		"Tries":        func(p *api.Pending) { p.Tries = 20 },
		"Due":          func(p *api.Pending) { p.Due = 1 },
		"nothing":      func(p *api.Pending) {},
		"all of these": func(p *api.Pending) { *p = greatestOf(*p) },
	} {
		q := with(p, change)
		becomes(t, what, rows(tv(1), p, tv(9)), 3, rows(tv(1), q, tv(9)), alter(q))
		becomes(t, what+" and back", rows(p), 1, rows(p), alter(q), alter(p))
	}
	for what, q := range map[string]api.Pending{
		"Flow": with(till(5), func(q *api.Pending) {
			q.Client, q.Handle, q.Scope, q.Message, q.Begun, q.Expiry = p.Client, p.Handle, p.Scope, p.Message, p.Begun, p.Expiry
		}),
		"Client":  with(p, func(p *api.Pending) { p.Client = "Box" }),
		"Handle":  with(p, func(p *api.Pending) { p.Handle = handle(6) }),
		"Scope":   with(p, func(p *api.Pending) { p.Scope = "more" }),
		"Message": with(p, func(p *api.Pending) { p.Message = "pay 8" }),
		"Notify":  with(p, func(p *api.Pending) { p.Notify = "tok abd" }),
		"Begun":   with(p, func(p *api.Pending) { p.Begun++ }),
		"Expiry":  with(p, func(p *api.Pending) { p.Expiry++ }),
	} {
		notApplied(t, what, rows(tv(1), p), 2, api.ErrFixed, 0, alter(q))
		notApplied(t, what, rows(tv(1)), 2, api.ErrFixed, 1, add(p), alter(q))
		notApplied(t, what+" of no row", rows(tv(1)), 2, api.ErrNone, 0, alter(q))
	}
	q := unpinged(p)
	q.Flow, q.Notify = 2, ""
	notApplied(t, "Flow and Notify", rows(p), 1, api.ErrFixed, 0, alter(q))
	notApplied(t, "Code", rows(tv(1)), 1, api.ErrFixed, 0, alter(twin(1, 1, 2)))
	notApplied(t, "the code of another", rows(tv(1), tv(2)), 2, api.ErrFixed, 0, alter(twin(1, 1, 2)))
	notApplied(t, "the handle of another", rows(tv(1), tv(2)), 2, api.ErrFixed, 0, alter(twin(1, 2, 1)))
	becomes(t, "a full table", rows(tv(1), tv(2)), 2, rows(tv(1), approved(tv(2))), alter(approved(tv(2))))
	becomes(t, "what was fixed is not any more", rows(tv(1)), 1, rows(approved(twin(1, 4, 4))), drop(1), add(twin(1, 4, 4)), alter(approved(twin(1, 4, 4))))
}

// greatestOf is p with all as great as it may be that may change.
func greatestOf(p api.Pending) api.Pending {
	g := greatest(1)
	p.Subject, p.Interval, p.Polled, p.Asked = g.Subject, g.Interval, g.Polled, g.Asked
	p.Status, p.Ping, p.Tries, p.Due = g.Status, g.Ping, g.Tries, g.Due
	return p
}

func unpinged(p api.Pending) api.Pending {
	p.Ping, p.Tries, p.Due = 0, 0, 0
	return p
}

// P12.4: a Drop needs its row.
func TestDrop(t *testing.T) {
	r := marked(rows(tv(1), till(2), box(3)))
	becomes(t, "the first", r, 3, marked(rows(till(2), box(3))), drop(1))
	becomes(t, "the last", r, 3, marked(rows(tv(1), till(2))), drop(3))
	becomes(t, "all", r, 3, marked(api.Rows{}), drop(2), drop(3), drop(1))
	for _, n := range []uint64{0, 4, math.MaxUint64} {
		notApplied(t, "no such row", r, 3, api.ErrNone, 0, drop(n))
		notApplied(t, "no such row", r, 3, api.ErrNone, 1, drop(1), drop(n))
	}
	notApplied(t, "none at all", api.Rows{}, 3, api.ErrNone, 0, drop(1))
	notApplied(t, "altered behind", r, 3, api.ErrNone, 1, drop(1), alter(tv(1)))
}

// P12.4: each mark is its own, the last Value counts, and rows stay as they are.
func TestMarks(t *testing.T) {
	r := marked(rows(tv(1)))
	for i := range 8 {
		want := r
		want.Marks[i] = 77
		becomes(t, "a mark", r, 1, want, mark(i, 77))
		becomes(t, "a mark twice", r, 1, want, mark(i, 5), mark(i, 77))
		want.Marks[i] = 0
		becomes(t, "a mark of 0", r, 1, want, mark(i, 0))
		becomes(t, "a mark of none", marked(api.Rows{}), 1, api.Rows{Marks: want.Marks}, mark(i, 0))
	}
	becomes(t, "all", api.Rows{}, 1, api.Rows{Marks: [8]uint64{1, 2, 3, 4, 5, 6, 7, math.MaxUint64}}, mark(0, 1), mark(1, 2), mark(2, 3), mark(3, 4), mark(4, 5), mark(5, 6), mark(6, 7), mark(7, math.MaxUint64))
}

// P12.4: the number of the change that can't be done, up to the last.
func TestWhichChange(t *testing.T) {
	for at := range 64 {
		changes := marks(64)
		changes[at] = drop(9)
		notApplied(t, "which", rows(tv(1)), 1, api.ErrNone, at, changes...)
		changes[63] = add(tv(1))
		if at < 63 {
			notApplied(t, "the first of two", rows(tv(1)), 1, api.ErrNone, at, changes...)
		}
	}
}

// P12.4, 12.1: as many rows as there may be, and one more.
func TestMostRows(t *testing.T) {
	full := rows(tvs(1024)...)
	notApplied(t, "1025", full, 1024, api.ErrFull, 0, add(tv(1025)))
	notApplied(t, "1025", full, 1024, api.ErrFull, 1, mark(0, 1), add(till(5000)))
	becomes(t, "the last", rows(tvs(1023)...), 1024, full, add(tv(1024)))
	becomes(t, "one for one", full, 1024, rows(append(slices.Clone(full.Pending[1:]), tv(1025))...), drop(1), add(tv(1025)))
	becomes(t, "as they are", full, 1024, full, alter(tv(77)))
	becomes(t, "one", api.Rows{}, 1, rows(tv(1)), add(tv(1)))
	notApplied(t, "two", rows(tv(1)), 1, api.ErrFull, 0, add(tv(2)))
}
