package store_test

import (
	"math"
	"slices"
	"strings"
	"testing"

	"wicket/api"
	"wicket/store"
)

// arePut: these are the changes' bytes, and they are read back.
func arePut(t *testing.T, l ...api.Change) {
	t.Helper()
	want := changesBytes(l...)
	b, e := store.PutChanges(l)
	if e != api.OK || string(b) != want {
		t.Errorf("PutChanges: %q, %d, not %q", b, e, want)
	}
	got, e := store.Changes([]byte(want))
	if e != api.OK || !slices.Equal(got, l) {
		t.Errorf("Changes(%q): %v, %d", want, got, e)
	}
}

func notPut(t *testing.T, what string, want api.Errno, l ...api.Change) {
	t.Helper()
	if b, e := store.PutChanges(l); e != want || len(b) != 0 {
		t.Errorf("%s: PutChanges: %q, %d, not %d", what, b, e, want)
	}
}

func noChanges(t *testing.T, what, b string, want api.Errno) {
	t.Helper()
	if l, e := store.Changes([]byte(b)); e != want || len(l) != 0 {
		t.Errorf("%s: Changes(%q): %v, %d, not %d", what, b, l, e, want)
	}
}

// P12.2: the bytes of each kind, alone and among others.
func TestChangesBytes(t *testing.T) {
	l := []api.Change{add(tv(1)), alter(till(300)), add(box(2)), drop(1), drop(math.MaxUint64), drop(0), mark(0, 0), mark(7, math.MaxUint64), mark(3, 300), alter(greatest(5))}
	for _, c := range l {
		arePut(t, c)
		arePut(t, c, c)
	}
	arePut(t, l...)
	arePut(t, marks(63)...)
	arePut(t, marks(64)...)
	b, _ := store.PutChanges([]api.Change{drop(1), mark(2, 300)})
	if string(b) != "\x02\x03\x01\x04\x02\xac\x02" {
		t.Errorf("% x", b)
	}
}

// P12.2: the chapter's examples.
func TestExampleChanges(t *testing.T) {
	notPut(t, "none", api.ErrChange)
	notPut(t, "Mark 8", api.ErrMark, mark(8, 0))
	c := drop(1)
	c.Value = 2
	notPut(t, "Drop with a Value", api.ErrChange, c)
	noChanges(t, "00", "\x00", api.ErrChange)
	noChanges(t, "01 03 01 00", "\x01\x03\x01\x00", api.ErrTail)
	noChanges(t, "01 05", "\x01\x05", api.ErrChange)
	if l, e := store.Changes([]byte("\x01\x03\x01")); e != api.OK || len(l) != 1 || l[0] != drop(1) {
		t.Errorf("%v, %d", l, e)
	}
}

// P12.2: how many there may be.
func TestHowManyChanges(t *testing.T) {
	notPut(t, "none", api.ErrChange, []api.Change{}...)
	notPut(t, "65", api.ErrChange, marks(65)...)
	notPut(t, "65 of which one is no row", api.ErrChange, append([]api.Change{add(api.Pending{})}, marks(64)...)...)
	notPut(t, "a row too many", api.ErrChange, append([]api.Change{mark(8, 0)}, marks(64)...)...)
	notPut(t, "many", api.ErrChange, marks(10000)...)
	for _, rest := range []string{"", "\x03\x01", "\x80\x00", strings.Repeat("\x03\x01", 65)} {
		noChanges(t, "none", "\x00"+rest, api.ErrChange)
		noChanges(t, "65", "\x41"+rest, api.ErrChange)
		noChanges(t, "great", number(1<<32+1)+rest, api.ErrChange)
		noChanges(t, "great", number(math.MaxUint64)+rest, api.ErrChange)
	}
}

// P12.2: a kind is 1 to 4, and what it does not write is zero.
func TestRightChanges(t *testing.T) {
	for _, kind := range []int{0, -1, 5, 100, math.MaxInt, math.MinInt} {
		notPut(t, "kind", api.ErrChange, api.Change{Kind: kind})
		notPut(t, "kind", api.ErrChange, api.Change{Kind: kind, Pending: tv(1)})
		notPut(t, "kind", api.ErrChange, api.Change{Kind: kind, Number: 1})
		notPut(t, "kind", api.ErrChange, api.Change{Kind: kind, Mark: 8, Value: 1})
	}
	for _, c := range []api.Change{add(tv(1)), alter(tv(1)), mark(0, 0), mark(8, 0), add(api.Pending{})} {
		c.Number = 1
		notPut(t, "a Number", api.ErrChange, c)
	}
	for _, c := range []api.Change{add(tv(1)), alter(tv(1)), drop(1), alter(api.Pending{})} {
		a, b := c, c
		a.Mark = 1
		notPut(t, "a Mark", api.ErrChange, a)
		a.Mark = 8
		notPut(t, "a Mark", api.ErrChange, a)
		a.Mark = -1
		notPut(t, "a Mark", api.ErrChange, a)
		b.Value = 1
		notPut(t, "a Value", api.ErrChange, b)
	}
	for _, change := range eachField() {
		var p api.Pending
		change(&p)
		for _, c := range []api.Change{drop(1), mark(1, 1), mark(8, 1)} {
			c.Pending = p
			notPut(t, "a Pending", api.ErrChange, c)
		}
	}
}

// eachField sets a field each to another value.
func eachField() []func(p *api.Pending) {
	return []func(p *api.Pending){
		func(p *api.Pending) { p.Number++ }, func(p *api.Pending) { p.Flow++ }, func(p *api.Pending) { p.Client += "x" }, func(p *api.Pending) { p.Handle += "x" },
		func(p *api.Pending) { p.Code += "X" }, func(p *api.Pending) { p.Scope += "x" }, func(p *api.Pending) { p.Subject += "x" }, func(p *api.Pending) { p.Message += "x" },
		func(p *api.Pending) { p.Notify += "x" }, func(p *api.Pending) { p.Begun++ }, func(p *api.Pending) { p.Expiry++ }, func(p *api.Pending) { p.Interval++ },
		func(p *api.Pending) { p.Polled++ }, func(p *api.Pending) { p.Asked = !p.Asked }, func(p *api.Pending) { p.Status++ }, func(p *api.Pending) { p.Ping++ },
		func(p *api.Pending) { p.Tries++ }, func(p *api.Pending) { p.Due++ },
	}
}

// P12.2: of the first change with an error its first error is told.
func TestOrderOfPutChanges(t *testing.T) {
	wrong := api.Change{Kind: 3, Number: 1, Value: 1}
	noRow := add(api.Pending{})
	noMark := mark(8, 1)
	for _, c := range []struct {
		want api.Errno
		l    []api.Change
	}{
		{api.ErrChange, []api.Change{drop(1), wrong, noRow, noMark}},
		{api.ErrPending, []api.Change{drop(1), noRow, wrong, noMark}},
		{api.ErrPending, []api.Change{alter(api.Pending{}), noMark}},
		{api.ErrMark, []api.Change{add(tv(1)), noMark, noRow, wrong}},
		{api.ErrMark, []api.Change{mark(7, 0), mark(-1, 0), wrong}},
		{api.ErrMark, []api.Change{mark(math.MaxInt, 0)}},
		{api.ErrMark, []api.Change{mark(math.MinInt, 0)}},
	} {
		notPut(t, "order", c.want, c.l...)
	}
	last := marks(64)
	last[63] = noMark
	notPut(t, "the last", api.ErrMark, last...)
	last[63] = noRow
	notPut(t, "the last", api.ErrPending, last...)
	for _, p := range []api.Pending{tv(0), with(tv(1), func(p *api.Pending) { p.Status = 5 }), with(box(1), func(p *api.Pending) { p.Tries = 21 })} {
		notPut(t, "no row", api.ErrPending, add(p))
		notPut(t, "no row", api.ErrPending, alter(p))
	}
}

// P12.2: bytes are read from the left, up to the first error.
func TestChangesFromTheLeft(t *testing.T) {
	noChanges(t, "nothing", "", api.ErrShort)
	noChanges(t, "the count", "\x80", api.ErrShort)
	noChanges(t, "the count", "\x81\x00", api.ErrForm)
	noChanges(t, "the count", strings.Repeat("\xff", 10), api.ErrWide)
	for _, l := range [][]api.Change{nil, {drop(1)}, {mark(7, 300), add(tv(2))}} {
		ahead := count(len(l)+1) + changesBytes(l...)[1:]
		for _, rest := range []string{"", "\x00", "\x80\x00", "\x05"} {
			noChanges(t, "Kind 0", ahead+"\x00"+rest, api.ErrChange)
			noChanges(t, "Kind 5", ahead+"\x05"+rest, api.ErrChange)
			noChanges(t, "a great Kind", ahead+number(1<<32+3)+rest, api.ErrChange)
			noChanges(t, "a great Kind", ahead+number(math.MaxUint64)+rest, api.ErrChange)
			noChanges(t, "Kind", ahead+"\x81\x00"+rest, api.ErrForm)
			noChanges(t, "Drop", ahead+"\x03\x81\x00"+rest, api.ErrForm)
			noChanges(t, "Mark", ahead+"\x04\x81\x00"+rest, api.ErrForm)
			noChanges(t, "Mark 8", ahead+"\x04\x08"+rest, api.ErrMark)
			noChanges(t, "a great Mark", ahead+"\x04"+number(1<<32)+rest, api.ErrMark)
			noChanges(t, "a great Mark", ahead+"\x04"+number(1<<63)+rest, api.ErrMark)
			noChanges(t, "Value", ahead+"\x04\x07\x81\x00"+rest, api.ErrForm)
			noChanges(t, "Value", ahead+"\x04\x00"+strings.Repeat("\xff", 9)+"\x02"+rest, api.ErrWide)
			noChanges(t, "Add", ahead+"\x01"+rowBytes(tv(0))+rest, api.ErrPending)
			noChanges(t, "Alter", ahead+"\x02"+rowBytes(tv(0))+rest, api.ErrPending)
			noChanges(t, "Add", ahead+"\x01"+join(fields(tv(0))[:2])+"\x41"+rest, api.ErrLong)
		}
		noChanges(t, "Kind", ahead, api.ErrShort)
		noChanges(t, "Drop", ahead+"\x03", api.ErrShort)
		noChanges(t, "Mark", ahead+"\x04", api.ErrShort)
		noChanges(t, "Value", ahead+"\x04\x07", api.ErrShort)
		noChanges(t, "Add", ahead+"\x01", api.ErrShort)
	}
}

// P12.2: what is left is told at the end alone; of every proper beginning something is missing.
func TestChangesEnd(t *testing.T) {
	l := []api.Change{add(tv(1)), alter(till(300)), drop(7), mark(7, 300), add(greatest(9))}
	b := changesBytes(l...)
	for n := range b {
		noChanges(t, "cut", b[:n], api.ErrShort)
	}
	for _, rest := range []string{"\x00", "\x03\x01", "\x80", strings.Repeat("\xff", 20), b} {
		noChanges(t, "a tail", b+rest, api.ErrTail)
	}
	noChanges(t, "one more than said", "\x01"+changesBytes(drop(1), drop(2))[1:], api.ErrTail)
	noChanges(t, "one less than said", "\x03"+changesBytes(drop(1), drop(2))[1:], api.ErrShort)
}
