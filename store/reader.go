package store

import (
	"math"

	"wicket/api"
	"wicket/frame"
)

// reader reads bytes from the left, up to the first error; from then on it answers zero values.
type reader struct {
	b  []byte
	at int
	e  api.Errno
}

// need is the error e, if something does not hold and there is no error ahead of it.
func (r *reader) need(holds bool, e api.Errno) {
	if r.e == api.OK && !holds {
		r.e = e
	}
}

func (r *reader) number() uint64 {
	if r.e != api.OK {
		return 0
	}
	n, size, e := frame.Uint(r.b[r.at:])
	r.at, r.e = r.at+size, e
	return n
}

// small is a number as an int. One that is too great for every field stays so, and does not wrap round into one that is not.
func (r *reader) small() int {
	return int(min(r.number(), math.MaxInt32))
}

func (r *reader) text(most int) string {
	if r.e != api.OK {
		return ""
	}
	s, size, e := frame.Text(r.b[r.at:], most)
	r.at, r.e = r.at+size, e
	return s
}

// end: nothing may be left.
func (r *reader) end() {
	r.need(r.at == len(r.b), api.ErrTail)
}

// pending: whether these are a row is asked when all of it could be read.
func (r *reader) pending() api.Pending {
	var p api.Pending
	p.Number, p.Flow = r.number(), r.small()
	p.Client, p.Handle, p.Code = r.text(api.MaxName), r.text(api.HandleSize), r.text(api.CodeSize)
	p.Scope, p.Subject = r.text(api.MaxScope), r.text(api.MaxName)
	p.Message, p.Notify = r.text(api.MaxMessage), r.text(api.MaxNotify)
	p.Begun, p.Expiry, p.Interval, p.Polled = r.number(), r.number(), r.number(), r.number()
	asked := r.number()
	p.Asked = asked == 1
	p.Status, p.Ping, p.Tries, p.Due = r.small(), r.small(), r.small(), r.number()
	r.need(asked <= 1 && isRow(p), api.ErrPending)
	return p
}

func (r *reader) change() api.Change {
	c := api.Change{Kind: r.small()}
	switch c.Kind {
	case api.ChangeAdd, api.ChangeAlter:
		c.Pending = r.pending()
	case api.ChangeDrop:
		c.Number = r.number()
	case api.ChangeMark:
		c.Mark = r.small()
		r.need(c.Mark < api.MaxMarks, api.ErrMark)
		c.Value = r.number()
	default:
		r.need(false, api.ErrChange)
	}
	return c
}

// rows: that no two have one handle or code is for others to see.
func (r *reader) rows() api.Rows {
	var rows api.Rows
	count := r.small()
	r.need(count <= api.MaxPending, api.ErrRows)
	last := uint64(0)
	for r.e == api.OK && len(rows.Pending) < count {
		p := r.pending()
		r.need(p.Number > last, api.ErrRows)
		rows.Pending = append(rows.Pending, p)
		last = p.Number
	}
	for i := range rows.Marks {
		rows.Marks[i] = r.number()
	}
	return rows
}
