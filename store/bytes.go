package store

import (
	"wicket/api"
	"wicket/frame"
)

// PutPending: P12.1.
func PutPending(p api.Pending) ([]byte, api.Errno) {
	if !isRow(p) {
		return nil, api.ErrPending
	}
	return putRow(nil, p), api.OK
}

// Pending: P12.1.
func Pending(b []byte) (api.Pending, int, api.Errno) {
	r := reader{b: b}
	p := r.pending()
	if r.e != api.OK {
		return api.Pending{}, 0, r.e
	}
	return p, r.at, api.OK
}

// PutChanges: P12.2.
func PutChanges(changes []api.Change) ([]byte, api.Errno) {
	if len(changes) < 1 || len(changes) > api.MaxChanges {
		return nil, api.ErrChange
	}
	b := putNumbers(nil, uint64(len(changes)))
	for _, c := range changes {
		if e := changeFault(c); e != api.OK {
			return nil, e
		}
		b = putChange(b, c)
	}
	return b, api.OK
}

// changeFault: why c may not be among changes.
func changeFault(c api.Change) api.Errno {
	switch {
	case c.Kind < api.ChangeAdd, c.Kind > api.ChangeMark, unwritten(c) != (api.Change{}):
		return api.ErrChange
	case hasRow(c) && !isRow(c.Pending):
		return api.ErrPending
	case c.Mark < 0, c.Mark >= api.MaxMarks:
		return api.ErrMark
	}
	return api.OK
}

func hasRow(c api.Change) bool {
	return c.Kind == api.ChangeAdd || c.Kind == api.ChangeAlter
}

// unwritten is what c has in the fields that its kind does not write.
func unwritten(c api.Change) api.Change {
	switch c.Kind {
	case api.ChangeAdd, api.ChangeAlter:
		c.Pending = api.Pending{}
	case api.ChangeDrop:
		c.Number = 0
	case api.ChangeMark:
		c.Mark, c.Value = 0, 0
	}
	c.Kind = 0
	return c
}

// Changes: P12.2.
func Changes(b []byte) ([]api.Change, api.Errno) {
	r := reader{b: b}
	count := r.small()
	r.need(count >= 1 && count <= api.MaxChanges, api.ErrChange)
	var l []api.Change
	for r.e == api.OK && len(l) < count {
		l = append(l, r.change())
	}
	r.end()
	if r.e != api.OK {
		return nil, r.e
	}
	return l, api.OK
}

// PutRows: P12.3.
func PutRows(r api.Rows) ([]byte, api.Errno) {
	if _, right := tableOf(r, api.MaxPending); !right {
		return nil, api.ErrRows
	}
	return putRows(r), api.OK
}

// Rows: P12.3.
func Rows(b []byte) (api.Rows, api.Errno) {
	r := reader{b: b}
	rows := r.rows()
	r.end()
	if r.e != api.OK {
		return api.Rows{}, r.e
	}
	if _, right := tableOf(rows, api.MaxPending); !right {
		return api.Rows{}, api.ErrRows
	}
	return rows, api.OK
}

// putNumbers may write into b's spare room, as all below: b is never an argument of a call of the chapter. (PutUint would copy all of it each time.)
func putNumbers(b []byte, numbers ...uint64) []byte {
	for _, n := range numbers {
		b = append(b, frame.PutUint(nil, n)...)
	}
	return b
}

func putTexts(b []byte, texts ...string) []byte {
	for _, s := range texts {
		b = append(b, frame.PutText(nil, s)...)
	}
	return b
}

func putRow(b []byte, p api.Pending) []byte {
	asked := uint64(0)
	if p.Asked {
		asked = 1
	}
	b = putNumbers(b, p.Number, uint64(p.Flow))
	b = putTexts(b, p.Client, p.Handle, p.Code, p.Scope, p.Subject, p.Message, p.Notify)
	b = putNumbers(b, p.Begun, p.Expiry, p.Interval, p.Polled, asked)
	return putNumbers(b, uint64(p.Status), uint64(p.Ping), uint64(p.Tries), p.Due)
}

func putChange(b []byte, c api.Change) []byte {
	b = putNumbers(b, uint64(c.Kind))
	switch c.Kind {
	case api.ChangeDrop:
		return putNumbers(b, c.Number)
	case api.ChangeMark:
		return putNumbers(b, uint64(c.Mark), c.Value)
	}
	return putRow(b, c.Pending)
}

func putRows(r api.Rows) []byte {
	b := putNumbers(nil, uint64(len(r.Pending)))
	for _, p := range r.Pending {
		b = putRow(b, p)
	}
	return putNumbers(b, r.Marks[:]...)
}
