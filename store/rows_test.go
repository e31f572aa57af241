package store_test

import (
	"math"
	"strings"
	"testing"

	"wicket/api"
	"wicket/store"
)

// areRight: these are the rows' bytes, and they are read back.
func areRight(t *testing.T, what string, r api.Rows) {
	t.Helper()
	want := rowsBytes(r)
	b, e := store.PutRows(r)
	if e != api.OK || string(b) != want {
		t.Errorf("%s: PutRows: %d bytes, %d", what, len(b), e)
	}
	got, e := store.Rows([]byte(want))
	if e != api.OK || !same(got, r) {
		t.Errorf("%s: Rows: %d rows, %d", what, len(got.Pending), e)
	}
}

func notRight(t *testing.T, what string, r api.Rows) {
	t.Helper()
	if b, e := store.PutRows(r); e != api.ErrRows || len(b) != 0 {
		t.Errorf("%s: PutRows: %q, %d", what, b, e)
	}
}

func noRows(t *testing.T, what, b string, want api.Errno) {
	t.Helper()
	if r, e := store.Rows([]byte(b)); e != want || !same(r, api.Rows{}) {
		t.Errorf("%s: Rows: %s, %d, not %d", what, said(r), e, want)
	}
}

func marked(r api.Rows) api.Rows {
	r.Marks = [8]uint64{1, 0, math.MaxUint64, 300, 127, 128, 6, 7}
	return r
}

// P12.3: the bytes of none, some and as many as there may be.
func TestRowsAreBytes(t *testing.T) {
	areRight(t, "none", api.Rows{})
	areRight(t, "marks alone", marked(api.Rows{}))
	areRight(t, "one", rows(tv(1)))
	areRight(t, "some", marked(rows(tv(1), till(2), box(300), till(1<<40), box(math.MaxUint64))))
	areRight(t, "1024", marked(rows(tvs(1024)...)))
	b, e := store.PutRows(marked(rows(tv(5))))
	if want := "\x01" + rowBytes(tv(5)) + "\x01\x00\xff\xff\xff\xff\xff\xff\xff\xff\xff\x01\xac\x02\x7f\x80\x01\x06\x07"; e != api.OK || string(b) != want {
		t.Errorf("%q, %d", b, e)
	}
	if b, e := store.PutRows(api.Rows{}); e != api.OK || string(b) != zeros(9) {
		t.Errorf("%q, %d", b, e)
	}
}

// P12.3: what is not right, as 12.1 says.
func TestRowsThatAreNotRight(t *testing.T) {
	codeOf := func(p api.Pending, c string) api.Pending { p.Code = c; return p }
	handleOf := func(p api.Pending, h string) api.Pending { p.Handle = h; return p }
	for what, r := range map[string]api.Rows{
		"falling":             rows(tv(2), tv(1)),
		"falling at the end":  rows(tv(1), tv(3), tv(2)),
		"twice":               rows(tv(1), tv(1)),
		"one number":          rows(tv(1), handleOf(till(1), handle(2))),
		"one handle":          rows(tv(1), handleOf(till(2), handle(1))),
		"one handle far off":  rows(tv(1), till(2), handleOf(box(3), handle(1))),
		"one code":            rows(tv(1), codeOf(tv(2), code(1))),
		"one code far off":    rows(tv(1), till(2), tv(3), codeOf(tv(4), code(1))),
		"no row":              rows(api.Pending{}),
		"no row at the end":   rows(tv(1), with(tv(2), func(p *api.Pending) { p.Status = 0 })),
		"no row at the front": rows(tv(0), tv(1)),
		"1025":                rows(tvs(1025)...),
		"many that are none":  rows(make([]api.Pending, 100000)...),
	} {
		notRight(t, what, r)
		if len(r.Pending) <= 1024 && r.Pending[0].Number != 0 && r.Pending[len(r.Pending)-1].Status != 0 {
			noRows(t, what, rowsBytes(r), api.ErrRows)
		}
	}
	areRight(t, "no code twice", rows(till(1), till(2), box(3)))
	areRight(t, "one client", rows(tv(1), tv(2)))
}

// P12.3: the chapter's examples.
func TestExampleRows(t *testing.T) {
	if r, e := store.Rows([]byte(zeros(9))); e != api.OK || !same(r, api.Rows{}) {
		t.Errorf("%v, %d", r, e)
	}
	noRows(t, "seven zeros behind the first", zeros(8), api.ErrShort)
}

// P12.3: bytes are read from the left, up to the first error.
func TestRowsFromTheLeft(t *testing.T) {
	noRows(t, "nothing", "", api.ErrShort)
	noRows(t, "the count", "\x81\x00", api.ErrForm)
	noRows(t, "the count", strings.Repeat("\xff", 10), api.ErrWide)
	for _, rest := range []string{"", zeros(8), "\x81\x00"} {
		noRows(t, "1025", "\x81\x08"+rest, api.ErrRows)
		noRows(t, "great", number(1<<32)+rest, api.ErrRows)
		noRows(t, "great", number(1<<32+1)+rest, api.ErrRows)
		noRows(t, "great", number(math.MaxUint64)+rest, api.ErrRows)
		noRows(t, "the first row", "\x02"+"\x81\x00"+rest, api.ErrForm)
		noRows(t, "the first row", "\x02"+rowBytes(tv(0))+rest, api.ErrPending)
		noRows(t, "no row, of a number that does not rise", "\x02"+rowBytes(tv(9))+rowBytes(tv(0))+rest, api.ErrPending)
		noRows(t, "a number that is there", "\x03"+rowBytes(tv(9))+rowBytes(till(9))+rest, api.ErrRows)
		noRows(t, "a number that falls", "\x03"+rowBytes(tv(9))+rowBytes(till(8))+rest, api.ErrRows)
		noRows(t, "a number that falls", "\x04"+rowBytes(tv(1))+rowBytes(tv(9))+rowBytes(till(2))+rest, api.ErrRows)
	}
	one := "\x01" + rowBytes(tv(1))
	for i := range 8 {
		for _, rest := range []string{"", zeros(8), "\x80"} {
			noRows(t, "a mark", one+zeros(i)+"\x81\x00"+rest, api.ErrForm)
			noRows(t, "a mark", one+zeros(i)+strings.Repeat("\xff", 9)+"\x02"+rest, api.ErrWide)
		}
		noRows(t, "a mark is missing", one+zeros(i), api.ErrShort)
	}
	noRows(t, "a row less than said", "\x02"+rowBytes(tv(1))+zeros(8), api.ErrShort)
}

// P12.3: handles and codes that are there twice are told last of all.
func TestTwinsAreToldLast(t *testing.T) {
	twins := []api.Rows{
		rows(tv(1), with(till(2), func(p *api.Pending) { p.Handle = handle(1) }), box(3)),
		rows(tv(1), with(tv(2), func(p *api.Pending) { p.Code = code(1) }), box(3)),
	}
	for _, r := range twins {
		b := rowsBytes(r)
		noRows(t, "twins", b, api.ErrRows)
		noRows(t, "twins and a tail", b+"\x00", api.ErrTail)
		noRows(t, "twins and no last mark", b[:len(b)-1], api.ErrShort)
		noRows(t, "twins and a wrong mark", b[:len(b)-1]+"\x81\x00", api.ErrForm)
		noRows(t, "twins and no row", "\x04"+b[1:len(b)-8]+rowBytes(tv(0))+zeros(8), api.ErrPending)
	}
}

// P12.3: what is left is told at the end; of every proper beginning something is missing.
func TestRowsEnd(t *testing.T) {
	b := rowsBytes(marked(rows(tv(1), till(2), box(300), greatest(1))))
	for n := range b {
		noRows(t, "cut", b[:n], api.ErrShort)
	}
	for _, rest := range []string{"\x00", "\x80", strings.Repeat("\xff", 20), b} {
		noRows(t, "a tail", b+rest, api.ErrTail)
	}
}
