package store

import (
	"maps"
	"slices"

	"wicket/api"
)

// table is rows and marks in memory, with the ways to find a row. It keeps the texts that it is handed, so those are copied ahead of it, and tells copies.
type table struct {
	most    int
	pending map[uint64]api.Pending // by number
	handles index[[api.HandleSize]byte]
	codes   index[[api.CodeSize]byte]
	clients index[string]
	marks   [api.MaxMarks]uint64
}

func newTable(most int) *table {
	return &table{
		most:    most,
		pending: map[uint64]api.Pending{},
		handles: newIndex(handleText, handleKey),
		codes:   newIndex(codeText, codeKey),
		clients: newIndex(clientText, clientKey),
	}
}

// tableOf is a table of r; none and false, if r is not right or has more than most rows.
func tableOf(r api.Rows, most int) (*table, bool) {
	if len(r.Pending) > most {
		return nil, false
	}
	t := newTable(most)
	last := uint64(0)
	for _, p := range r.Pending {
		if !isRow(p) || p.Number <= last || t.add(p) != api.OK {
			return nil, false
		}
		last = p.Number
	}
	t.marks = r.Marks
	return t, true
}

// rows are what the table has, by rising number.
func (t *table) rows() api.Rows {
	return api.Rows{Pending: t.listed(slices.Sorted(maps.Keys(t.pending))), Marks: t.marks}
}

// listed are the rows with these numbers, which are there.
func (t *table) listed(numbers []uint64) []api.Pending {
	var l []api.Pending
	for _, n := range numbers {
		l = append(l, copied(t.pending[n]))
	}
	return l
}

// first is the row with the first of the numbers, if there is one.
func (t *table) first(numbers []uint64) (api.Pending, bool) {
	if len(numbers) == 0 {
		return api.Pending{}, false
	}
	return t.row(numbers[0])
}

// row is the one with that number, if there is one.
func (t *table) row(number uint64) (api.Pending, bool) {
	p, there := t.pending[number]
	return copied(p), there
}

func (t *table) add(p api.Pending) api.Errno {
	_, there := t.pending[p.Number]
	switch {
	case there:
		return api.ErrThere
	case len(t.handles.find(p.Handle)) > 0:
		return api.ErrHandle
	case len(t.codes.find(p.Code)) > 0:
		return api.ErrUserCode
	case len(t.pending) >= t.most:
		return api.ErrFull
	}
	t.pending[p.Number] = p
	t.handles.put(p)
	t.codes.put(p)
	t.clients.put(p)
	return api.OK
}

// alter lets the indexes be: by what is fixed alone a row is found.
func (t *table) alter(p api.Pending) api.Errno {
	old, there := t.pending[p.Number]
	switch {
	case !there:
		return api.ErrNone
	case fixed(p) != fixed(old):
		return api.ErrFixed
	}
	t.pending[p.Number] = p
	return api.OK
}

func (t *table) drop(number uint64) api.Errno {
	p, there := t.pending[number]
	if !there {
		return api.ErrNone
	}
	delete(t.pending, number)
	t.handles.remove(p)
	t.codes.remove(p)
	t.clients.remove(p)
	return api.OK
}

// change does one that is right, and tells the one that takes it back.
func (t *table) change(c api.Change) (api.Change, api.Errno) {
	switch c.Kind {
	case api.ChangeAdd:
		e := t.add(c.Pending)
		return api.Change{Kind: api.ChangeDrop, Number: c.Pending.Number}, e
	case api.ChangeAlter:
		old := t.pending[c.Pending.Number]
		e := t.alter(c.Pending)
		return api.Change{Kind: api.ChangeAlter, Pending: old}, e
	case api.ChangeDrop:
		old := t.pending[c.Number]
		e := t.drop(c.Number)
		return api.Change{Kind: api.ChangeAdd, Pending: old}, e
	}
	old := t.marks[c.Mark]
	t.marks[c.Mark] = c.Value
	return api.Change{Kind: api.ChangeMark, Mark: c.Mark, Value: old}, api.OK
}

// changeAll does all of the changes, which are right, and tells those that take them back. Where one can't be done it does none, and tells its error and its number.
func (t *table) changeAll(changes []api.Change) ([]api.Change, api.Errno, int) {
	var back []api.Change
	for i, c := range changes {
		b, e := t.change(c)
		if e != api.OK {
			t.takeBack(back)
			return nil, e, i
		}
		back = append(back, b)
	}
	return back, api.OK, 0
}

// takeBack begins with the last: each is done on what was there behind the change that it takes back, so none can fail.
func (t *table) takeBack(back []api.Change) {
	for _, c := range slices.Backward(back) {
		t.change(c)
	}
}
