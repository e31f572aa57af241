package store_test

import (
	"math"
	"math/rand"
	"regexp"
	"slices"
	"strings"
	"testing"

	"wicket/api"
	"wicket/frame"
	"wicket/store"
)

var (
	printables = regexp.MustCompile(`\A[ -~]*\z`)
	letters    = regexp.MustCompile(`\A[A-Z]*\z`)
)

// slowRow: section 12.1, by its words.
func slowRow(p api.Pending) bool {
	is := func(one *regexp.Regexp, least, most int, s string) bool {
		return len(s) >= least && len(s) <= most && one.MatchString(s)
	}
	all := []bool{
		p.Number >= 1, p.Flow == 1 || p.Flow == 2 || p.Flow == 3, is(printables, 1, 64, p.Client), len(p.Handle) == 32,
		p.Flow == 1 && is(letters, 8, 8, p.Code) || p.Flow != 1 && p.Code == "",
		is(printables, 0, 256, p.Scope), is(printables, 0, 64, p.Subject), len(p.Message) <= 128,
		p.Flow == 3 && is(printables, 1, 192, p.Notify) || p.Flow != 3 && p.Notify == "",
		p.Begun <= p.Expiry, p.Interval >= 1, p.Asked || p.Polled == 0,
		p.Status == 1 || p.Status == 2 || p.Status == 3 || p.Status == 4,
		p.Ping == 0 || p.Ping == 1 || p.Ping == 2 || p.Ping == 3, p.Tries >= 0 && p.Tries <= 20,
		p.Flow == 3 || p.Tries == 0 && p.Due == 0 && p.Ping == 0,
		p.Ping != 0 || p.Tries == 0 && p.Due == 0,
	}
	return !slices.Contains(all, false)
}

// slowRight: section 12.1, each row held against each other.
func slowRight(r api.Rows) bool {
	if len(r.Pending) > 1024 {
		return false
	}
	for i, p := range r.Pending {
		if !slowRow(p) {
			return false
		}
		for _, q := range r.Pending[:i] {
			if q.Number >= p.Number || q.Handle == p.Handle || q.Code == p.Code && p.Code != "" {
				return false
			}
		}
	}
	return true
}

// slowNumber is the number at the beginning, and what stands behind it.
func slowNumber(b string) (uint64, string, api.Errno) {
	n, size, e := frame.Uint([]byte(b))
	return n, b[size:], e
}

// slowPending is a row, and what stands behind it.
func slowPending(b string) (api.Pending, string, api.Errno) {
	most := textMost()
	var texts [18]string
	var ns [18]uint64
	for i := range 18 {
		size, e := 0, api.OK
		if n, isText := most[i]; isText {
			texts[i], size, e = frame.Text([]byte(b), n)
		} else {
			ns[i], size, e = frame.Uint([]byte(b))
		}
		if e != api.OK {
			return api.Pending{}, "", e
		}
		b = b[size:]
	}
	for _, i := range []int{1, 13, 14, 15, 16} {
		if ns[i] > 1000 || i == 13 && ns[i] > 1 {
			return api.Pending{}, "", api.ErrPending
		}
	}
	p := api.Pending{
		Number: ns[0], Flow: int(ns[1]), Client: texts[2], Handle: texts[3], Code: texts[4], Scope: texts[5], Subject: texts[6], Message: texts[7], Notify: texts[8],
		Begun: ns[9], Expiry: ns[10], Interval: ns[11], Polled: ns[12], Asked: ns[13] == 1, Status: int(ns[14]), Ping: int(ns[15]), Tries: int(ns[16]), Due: ns[17],
	}
	if !slowRow(p) {
		return api.Pending{}, "", api.ErrPending
	}
	return p, b, api.OK
}

// slowChange is a change, and what stands behind it.
func slowChange(b string) (c api.Change, rest string, e api.Errno) {
	kind, b, e := slowNumber(b)
	switch {
	case e != api.OK:
		return c, b, e
	case kind == 1 || kind == 2:
		c.Pending, b, e = slowPending(b)
	case kind == 3:
		c.Number, b, e = slowNumber(b)
	case kind == 4:
		var place uint64
		place, b, e = slowNumber(b)
		if e == api.OK && place > 7 {
			e = api.ErrMark
		}
		if e != api.OK {
			return c, b, e
		}
		c.Mark = int(place)
		c.Value, b, e = slowNumber(b)
	default:
		return c, b, api.ErrChange
	}
	c.Kind = int(kind)
	return c, b, e
}

func slowChanges(b string) ([]api.Change, api.Errno) {
	n, b, e := slowNumber(b)
	if e != api.OK {
		return nil, e
	}
	if n == 0 || n > 64 {
		return nil, api.ErrChange
	}
	var l []api.Change
	for range n {
		var c api.Change
		if c, b, e = slowChange(b); e != api.OK {
			return nil, e
		}
		l = append(l, c)
	}
	if b != "" {
		return nil, api.ErrTail
	}
	return l, api.OK
}

func slowRows(b string) (api.Rows, api.Errno) {
	n, b, e := slowNumber(b)
	if e != api.OK {
		return api.Rows{}, e
	}
	if n > 1024 {
		return api.Rows{}, api.ErrRows
	}
	var r api.Rows
	for i := range int(n) {
		var p api.Pending
		if p, b, e = slowPending(b); e != api.OK {
			return api.Rows{}, e
		}
		if i > 0 && r.Pending[i-1].Number >= p.Number {
			return api.Rows{}, api.ErrRows
		}
		r.Pending = append(r.Pending, p)
	}
	for i := range 8 {
		if r.Marks[i], b, e = slowNumber(b); e != api.OK {
			return api.Rows{}, e
		}
	}
	if b != "" {
		return api.Rows{}, api.ErrTail
	}
	if !slowRight(r) {
		return api.Rows{}, api.ErrRows
	}
	return r, api.OK
}

// slowFault: why these can't be put, by P12.2's words.
func slowFault(l []api.Change) api.Errno {
	if len(l) == 0 || len(l) > 64 {
		return api.ErrChange
	}
	for _, c := range l {
		var p api.Pending
		switch isRow := c.Kind == 1 || c.Kind == 2; {
		case c.Kind < 1 || c.Kind > 4:
			return api.ErrChange
		case !isRow && c.Pending != p || c.Kind != 3 && c.Number != 0 || c.Kind != 4 && (c.Mark != 0 || c.Value != 0):
			return api.ErrChange
		case isRow && !slowRow(c.Pending):
			return api.ErrPending
		case c.Mark < 0 || c.Mark > 7:
			return api.ErrMark
		}
	}
	return api.OK
}

// slowApply: P12.4, by its words, on a list.
func slowApply(r api.Rows, most int, changes []api.Change) (api.Rows, api.Errno, int) {
	if most < 1 || most > 1024 {
		return api.Rows{}, api.ErrArg, 0
	}
	if !slowRight(r) || len(r.Pending) > most {
		return api.Rows{}, api.ErrRows, 0
	}
	if e := slowFault(changes); e != api.OK {
		return api.Rows{}, e, 0
	}
	r.Pending = slices.Clone(r.Pending)
	for i, c := range changes {
		if e := slowDo(&r, most, c); e != api.OK {
			return api.Rows{}, e, i
		}
	}
	return r, api.OK, 0
}

func slowDo(r *api.Rows, most int, c api.Change) api.Errno {
	p := c.Pending
	place := func(n uint64) int {
		return slices.IndexFunc(r.Pending, func(q api.Pending) bool { return q.Number == n })
	}
	switch c.Kind {
	case 1:
		switch {
		case place(p.Number) >= 0:
			return api.ErrThere
		case slices.ContainsFunc(r.Pending, func(q api.Pending) bool { return q.Handle == p.Handle }):
			return api.ErrHandle
		case slices.ContainsFunc(r.Pending, func(q api.Pending) bool { return p.Code != "" && q.Code == p.Code }):
			return api.ErrUserCode
		case len(r.Pending) == most:
			return api.ErrFull
		}
		at := slices.IndexFunc(r.Pending, func(q api.Pending) bool { return q.Number > p.Number })
		if at < 0 {
			at = len(r.Pending)
		}
		r.Pending = slices.Insert(r.Pending, at, p)
	case 2:
		at := place(p.Number)
		if at < 0 {
			return api.ErrNone
		}
		q := r.Pending[at]
		if q.Flow != p.Flow || q.Client != p.Client || q.Handle != p.Handle || q.Code != p.Code || q.Scope != p.Scope || q.Message != p.Message || q.Notify != p.Notify || q.Begun != p.Begun || q.Expiry != p.Expiry {
			return api.ErrFixed
		}
		r.Pending[at] = p
	case 3:
		at := place(c.Number)
		if at < 0 {
			return api.ErrNone
		}
		r.Pending = slices.Delete(r.Pending, at, at+1)
	case 4:
		r.Marks[c.Mark] = c.Value
	}
	return api.OK
}

func pick[T any](r *rand.Rand, l ...T) T { return l[r.Intn(len(l))] }

// drawnRow is a row out of a few, so that many meet; some are none.
func drawnRow(r *rand.Rand) api.Pending {
	n := uint64(1 + r.Intn(9))
	p := pick(r, tv, till, box)(n)
	if r.Intn(3) > 0 {
		p = tv(n)
	}
	if r.Intn(6) == 0 {
		p.Handle = handle(uint64(1 + r.Intn(9)))
	}
	if p.Flow == 1 && r.Intn(6) == 0 {
		p.Code = code(uint64(1 + r.Intn(9)))
	}
	switch r.Intn(12) {
	case 0, 1:
		p.Status, p.Subject = 1+r.Intn(4), pick(r, "", "ann", "bob")
	case 2, 3:
		p.Asked, p.Polled, p.Interval = true, uint64(r.Intn(300)), uint64(1+r.Intn(300))
	case 4:
		p.Client, p.Scope = pick(r, "tv", "other"), pick(r, "", "read")
	case 5:
		p.Number = uint64(r.Int63())
	case 6:
		if r.Intn(4) == 0 {
			pick(r, eachField()...)(&p)
		}
	}
	return p
}

func drawnChange(r *rand.Rand) api.Change {
	switch r.Intn(20) {
	case 0, 1, 2, 3, 4, 5:
		return add(drawnRow(r))
	case 6, 7, 8, 9, 10:
		return alter(drawnRow(r))
	case 11, 12, 13, 14:
		return drop(uint64(r.Intn(10)))
	case 15:
		if r.Intn(8) == 0 {
			return pick(r, api.Change{}, api.Change{Kind: 3, Mark: 1}, mark(8, 0), api.Change{Kind: 4, Number: 1}, api.Change{Kind: 5}, api.Change{Kind: 1, Pending: tv(1), Value: 3})
		}
	}
	return mark(r.Intn(8), pick(r, 0, 1, uint64(r.Int63()), math.MaxUint64))
}

func drawnChanges(r *rand.Rand) []api.Change {
	var l []api.Change
	n := 1 + r.Intn(3)
	if r.Intn(8) == 0 {
		n = r.Intn(9)
	}
	for range n {
		l = append(l, drawnChange(r))
	}
	return l
}

// P12.2, P12.4: Apply and the slow one answer the same, over drawn changes.
func TestApplyIsTheSlowApply(t *testing.T) {
	heard := map[api.Errno]int{}
	for seed := range int64(200) {
		r := rand.New(rand.NewSource(seed))
		var now api.Rows
		most := 1 + r.Intn(9)
		for range 60 {
			changes := drawnChanges(r)
			got, e, at := store.Apply(now, most, changes)
			want, wantE, wantAt := slowApply(now, most, changes)
			if e != wantE || at != wantAt || !same(got, want) {
				t.Fatalf("seed %d: %v: %d, %d, not %d, %d:\n%s\nnot\n%s", seed, changes, e, at, wantE, wantAt, said(got), said(want))
			}
			if b, e := store.PutChanges(changes); e != slowFault(changes) || e == api.OK && string(b) != changesBytes(changes...) || e != api.OK && len(b) > 0 {
				t.Fatalf("seed %d: PutChanges: %q, %d", seed, b, e)
			}
			heard[e]++
			if e == api.OK {
				now = got
			}
		}
	}
	for _, e := range []api.Errno{api.OK, api.ErrThere, api.ErrHandle, api.ErrUserCode, api.ErrFull, api.ErrNone, api.ErrFixed, api.ErrChange, api.ErrPending, api.ErrMark} {
		if heard[e] < 10 {
			t.Errorf("%d was heard %d times", e, heard[e])
		}
	}
}

// bent is b with something done to it, or nothing.
func bent(r *rand.Rand, b string) string {
	at := r.Intn(len(b) + 1)
	switch r.Intn(8) {
	case 0:
		return b
	case 1:
		return b[:at]
	case 2:
		return b[:at] + b[min(at+1, len(b)):]
	case 3:
		return b[:at] + pick(r, "\x00", "\x80", "\xff", "\x01") + b[at:]
	case 4:
		return b + pick(r, "\x00", "\x80", b)
	}
	p := []byte(b)
	for range 1 + r.Intn(2) {
		p[r.Intn(len(p))] = byte(pick(r, 0, 1, 2, 3, 4, 5, 8, 32, 65, 128, 255, r.Intn(256)))
	}
	return string(p)
}

// P12.1 to P12.3, P12.10: the readers and the slow ones read the same, over bytes that are bent; and what they read is what is written.
func TestReadersAreTheSlowReaders(t *testing.T) {
	heard := map[api.Errno]int{}
	r := rand.New(rand.NewSource(121))
	for range 20000 {
		var l []api.Change
		var some api.Rows
		for range 1 + r.Intn(3) {
			c := pick(r, add(drawnRow(r)), alter(drawnRow(r)), drop(uint64(r.Intn(300))), mark(r.Intn(9), uint64(r.Intn(300))))
			l = append(l, c)
			if c.Kind < 3 {
				some.Pending = append(some.Pending, c.Pending)
			}
		}
		one := bent(r, rowBytes(drawnRow(r)))
		p, n, e := store.Pending([]byte(one))
		q, rest, want := slowPending(one)
		if e != want || p != q || e == api.OK && n != len(one)-len(rest) || e != api.OK && n != 0 || e == api.OK && rowBytes(p) != one[:n] {
			t.Fatalf("Pending(%q): %v, %d, %d, not %v, %d", one, p, n, e, q, want)
		}
		heard[e]++
		many := bent(r, changesBytes(l...))
		got, e := store.Changes([]byte(many))
		if should, want := slowChanges(many); e != want || !slices.Equal(got, should) || e == api.OK && changesBytes(got...) != many {
			t.Fatalf("Changes(%q): %v, %d, not %v, %d", many, got, e, should, want)
		}
		heard[e]++
		b := bent(r, rowsBytes(some))
		rs, e := store.Rows([]byte(b))
		if should, want := slowRows(b); e != want || !same(rs, should) || e == api.OK && rowsBytes(rs) != b {
			t.Fatalf("Rows(%q): %s, %d, not %s, %d", b, said(rs), e, said(should), want)
		}
		heard[e]++
	}
	for _, e := range []api.Errno{api.OK, api.ErrShort, api.ErrForm, api.ErrLong, api.ErrTail, api.ErrPending, api.ErrChange, api.ErrMark, api.ErrRows} {
		if heard[e] < 50 {
			t.Errorf("%d was heard %d times", e, heard[e])
		}
	}
}

// 12.1: what is a row, over drawn ones and all that is a field away from them.
func TestRowIsTheSlowRow(t *testing.T) {
	r := rand.New(rand.NewSource(122))
	for range 4000 {
		p := drawnRow(r)
		for range r.Intn(3) {
			pick(r, eachField()...)(&p)
		}
		b, e := store.PutPending(p)
		if (e == api.OK) != slowRow(p) || e == api.OK && string(b) != rowBytes(p) || e != api.OK && (e != api.ErrPending || len(b) > 0) {
			t.Fatalf("%v: %q, %d", p, b, e)
		}
	}
	for _, s := range []string{"", "a", strings.Repeat("a", 64), strings.Repeat("a", 65), "é", "\x7f", "a b", " ", "a\n"} {
		for _, p := range []api.Pending{
			with(tv(1), func(p *api.Pending) { p.Client = s }), with(tv(1), func(p *api.Pending) { p.Scope = s }), with(box(1), func(p *api.Pending) { p.Subject = s }),
			with(box(1), func(p *api.Pending) { p.Notify = s }), with(box(1), func(p *api.Pending) { p.Message = s }),
		} {
			if _, e := store.PutPending(p); (e == api.OK) != slowRow(p) {
				t.Errorf("%v: %d", p, e)
			}
		}
	}
}
