package store_test

import (
	"math"
	"strings"
	"testing"

	"wicket/api"
	"wicket/store"
)

// isRow: p is a row, its bytes are these, and they are read back, whatever stands behind.
func isRow(t *testing.T, what string, p api.Pending) {
	t.Helper()
	want := rowBytes(p)
	b, e := store.PutPending(p)
	if e != api.OK || string(b) != want {
		t.Errorf("%s: PutPending: %q, %d, not %q", what, b, e, want)
	}
	for _, behind := range []string{"", "\x00", "\xff\xff", want} {
		q, n, e := store.Pending([]byte(want + behind))
		if e != api.OK || q != p || n != len(want) {
			t.Errorf("%s: Pending with %q behind: %v, %d, %d", what, behind, q, n, e)
		}
	}
}

// noRow: p is no row, and what would be its bytes is none either.
func noRow(t *testing.T, what string, p api.Pending) {
	t.Helper()
	if b, e := store.PutPending(p); e != api.ErrPending || len(b) != 0 {
		t.Errorf("%s: PutPending: %q, %d", what, b, e)
	}
	notRead(t, what, rowBytes(p), api.ErrPending)
}

// notRead: Pending answers that error, and nothing else.
func notRead(t *testing.T, what, b string, want api.Errno) {
	t.Helper()
	if p, n, e := store.Pending([]byte(b)); e != want || n != 0 || p != (api.Pending{}) {
		t.Errorf("%s: Pending(%q): %v, %d, %d, not %d", what, b, p, n, e, want)
	}
}

// P12.1: the chapter's example.
func TestExampleRow(t *testing.T) {
	p := api.Pending{Number: 1, Flow: api.FlowDevice, Client: "tv", Handle: strings.Repeat("0", 32), Code: "BCDFGHJK", Expiry: 600, Interval: 5, Status: api.StatusWaiting}
	b, e := store.PutPending(p)
	want := "\x01\x01\x02tv\x20" + strings.Repeat("0", 32) + "\x08BCDFGHJK\x00\x00\x00\x00\x00\xd8\x04\x05\x00\x00\x01\x00\x00\x00"
	if e != api.OK || string(b) != want {
		t.Errorf("% x, %d", b, e)
	}
	isRow(t, "R", p)
	p.Handle = zeros(32)
	isRow(t, "R of 32 bytes 0", p)
}

// P12.1: each field stands at its place.
func TestRowsBytes(t *testing.T) {
	isRow(t, "tv", tv(300))
	isRow(t, "till", till(2))
	isRow(t, "box", box(3))
	isRow(t, "greatest", greatest(4096))
	isRow(t, "unlike", api.Pending{
		Number: 1 << 40, Flow: 3, Client: "c", Handle: handle(1 << 50), Scope: "s", Subject: "u", Message: "m", Notify: "n",
		Begun: 1001, Expiry: 2002, Interval: 3003, Polled: 4004, Asked: true, Status: 2, Ping: 1, Tries: 7, Due: 5005,
	})
}

// fault is a change of a row behind which it is one, or is none.
type fault struct {
	what   string
	change func(p *api.Pending)
}

func all256(fits func(c byte) bool, lay func(p *api.Pending, s string)) (may, mayNot []fault) {
	for c := range 256 {
		s := string([]byte{byte(c)})
		f := fault{"the byte " + s, func(p *api.Pending) { lay(p, s) }}
		if fits(byte(c)) {
			may = append(may, f)
		} else {
			mayNot = append(mayNot, f)
		}
	}
	return may, mayNot
}

func try(t *testing.T, p api.Pending, may, mayNot []fault) {
	t.Helper()
	for _, f := range may {
		isRow(t, p.Client+" "+f.what, with(p, f.change))
	}
	for _, f := range mayNot {
		noRow(t, p.Client+" "+f.what, with(p, f.change))
	}
}

// 12.1: the edges of what hangs on no flow.
func TestEdgesOfARow(t *testing.T) {
	for _, p := range []api.Pending{tv(9), till(9), box(9)} {
		try(t, p, []fault{
			{"Number 1", func(p *api.Pending) { p.Number = 1 }},
			{"greatest Number", func(p *api.Pending) { p.Number = math.MaxUint64 }},
			{"Client of 1", func(p *api.Pending) { p.Client = "c" }},
			{"Client of 64", func(p *api.Pending) { p.Client = strings.Repeat("c", 64) }},
			{"any Handle", func(p *api.Pending) { p.Handle = strings.Repeat("\xff\x00\n\x80", 8) }},
			{"no Scope", func(p *api.Pending) { p.Scope = "" }},
			{"Scope of 256", func(p *api.Pending) { p.Scope = strings.Repeat("s", 256) }},
			{"no Subject", func(p *api.Pending) { p.Subject = "" }},
			{"Subject of 64", func(p *api.Pending) { p.Subject = strings.Repeat("s", 64) }},
			{"no Message", func(p *api.Pending) { p.Message = "" }},
			{"Message of 128", func(p *api.Pending) { p.Message = strings.Repeat("\x00", 128) }},
			{"Begun is Expiry", func(p *api.Pending) { p.Begun = p.Expiry }},
			{"all at 0", func(p *api.Pending) { p.Begun, p.Expiry = 0, 0 }},
			{"all at the end", func(p *api.Pending) { p.Begun, p.Expiry = math.MaxUint64, math.MaxUint64 }},
			{"Interval 1", func(p *api.Pending) { p.Interval = 1 }},
			{"greatest Interval", func(p *api.Pending) { p.Interval = math.MaxUint64 }},
			{"asked at 0", func(p *api.Pending) { p.Asked, p.Polled = true, 0 }},
			{"asked at the end", func(p *api.Pending) { p.Asked, p.Polled = true, math.MaxUint64 }},
			{"not asked", func(p *api.Pending) { p.Asked, p.Polled = false, 0 }},
			{"Status 1", func(p *api.Pending) { p.Status = 1 }},
			{"Status 2", func(p *api.Pending) { p.Status = 2 }},
			{"Status 3", func(p *api.Pending) { p.Status = 3 }},
			{"Status 4", func(p *api.Pending) { p.Status = 4 }},
		}, []fault{
			{"Number 0", func(p *api.Pending) { p.Number = 0 }},
			{"no Client", func(p *api.Pending) { p.Client = "" }},
			{"no Handle", func(p *api.Pending) { p.Handle = "" }},
			{"Handle of 31", func(p *api.Pending) { p.Handle = p.Handle[1:] }},
			{"Begun behind Expiry", func(p *api.Pending) { p.Begun = p.Expiry + 1 }},
			{"Expiry ahead of Begun", func(p *api.Pending) { p.Begun, p.Expiry = math.MaxUint64, math.MaxUint64-1 }},
			{"Interval 0", func(p *api.Pending) { p.Interval = 0 }},
			{"polled and not asked", func(p *api.Pending) { p.Asked, p.Polled = false, 1 }},
			{"Status 0", func(p *api.Pending) { p.Status = 0 }},
			{"Status 5", func(p *api.Pending) { p.Status = 5 }},
			{"Flow 0", func(p *api.Pending) { p.Flow = 0 }},
			{"Flow 4", func(p *api.Pending) { p.Flow = 4 }},
		})
	}
}

func printable(c byte) bool { return c >= 32 && c <= 126 }

// 12.1: which bytes may stand in the texts.
func TestBytesOfTexts(t *testing.T) {
	for _, lay := range []func(p *api.Pending, s string){
		func(p *api.Pending, s string) { p.Client = "a" + s },
		func(p *api.Pending, s string) { p.Client = s + "a" },
		func(p *api.Pending, s string) { p.Scope = "a" + s },
		func(p *api.Pending, s string) { p.Scope = s },
		func(p *api.Pending, s string) { p.Subject = s + "a" },
		func(p *api.Pending, s string) { p.Subject = s },
		func(p *api.Pending, s string) { p.Notify = "a" + s },
		func(p *api.Pending, s string) { p.Notify = s },
	} {
		may, mayNot := all256(printable, lay)
		try(t, box(9), may, mayNot)
	}
	for at := range 8 {
		letter := func(p *api.Pending, s string) { p.Code = p.Code[:at] + s + p.Code[at+1:] }
		may, mayNot := all256(func(c byte) bool { return c >= 'A' && c <= 'Z' }, letter)
		try(t, tv(9), may, mayNot)
	}
	may, _ := all256(func(byte) bool { return true }, func(p *api.Pending, s string) { p.Message = s })
	try(t, tv(9), may, nil)
	may, _ = all256(func(byte) bool { return true }, func(p *api.Pending, s string) { p.Handle = p.Handle[:16] + s + p.Handle[17:] })
	try(t, till(9), may, nil)
}

// 12.1: what hangs on the flow.
func TestEdgesOfAFlow(t *testing.T) {
	try(t, tv(9), nil, []fault{
		{"no Code", func(p *api.Pending) { p.Code = "" }},
		{"Code of 7", func(p *api.Pending) { p.Code = "BCDFGHJ" }},
		{"Notify", func(p *api.Pending) { p.Notify = "n" }},
	})
	for _, p := range []api.Pending{till(9), box(9)} {
		try(t, p, nil, []fault{
			{"Code", func(p *api.Pending) { p.Code = "BCDFGHJK" }},
			{"Code of 1", func(p *api.Pending) { p.Code = "B" }},
		})
	}
	try(t, till(9), nil, []fault{
		{"Notify", func(p *api.Pending) { p.Notify = "n" }},
	})
	try(t, box(9), []fault{
		{"Notify of 1", func(p *api.Pending) { p.Notify = "n" }},
		{"Notify of 192", func(p *api.Pending) { p.Notify = strings.Repeat("n", 192) }},
	}, []fault{
		{"no Notify", func(p *api.Pending) { p.Notify = "" }},
	})
}

// 12.1: pings, their attempts and when they are due.
func TestEdgesOfAPing(t *testing.T) {
	for _, p := range []api.Pending{tv(9), till(9)} {
		try(t, p, nil, []fault{
			{"Ping 1", func(p *api.Pending) { p.Ping = 1 }},
			{"Ping 2", func(p *api.Pending) { p.Ping = 2 }},
			{"Ping 3", func(p *api.Pending) { p.Ping = 3 }},
			{"Tries", func(p *api.Pending) { p.Tries = 1 }},
			{"Due", func(p *api.Pending) { p.Due = 1 }},
		})
	}
	for ping := 1; ping <= 3; ping++ {
		p := with(box(9), func(p *api.Pending) { p.Ping = ping })
		try(t, p, []fault{
			{"as it is", func(p *api.Pending) {}},
			{"Tries 0", func(p *api.Pending) { p.Tries = 0 }},
			{"Tries 20", func(p *api.Pending) { p.Tries = 20 }},
			{"Due 0", func(p *api.Pending) { p.Due = 0 }},
			{"Due at the end", func(p *api.Pending) { p.Due = math.MaxUint64 }},
		}, []fault{
			{"Tries 21", func(p *api.Pending) { p.Tries = 21 }},
		})
	}
	try(t, box(9), []fault{
		{"no ping", func(p *api.Pending) { p.Ping, p.Tries, p.Due = 0, 0, 0 }},
	}, []fault{
		{"no ping, Tries", func(p *api.Pending) { p.Ping, p.Tries, p.Due = 0, 1, 0 }},
		{"no ping, Due", func(p *api.Pending) { p.Ping, p.Tries, p.Due = 0, 0, 1 }},
		{"Ping 4", func(p *api.Pending) { p.Ping = 4 }},
	})
}

// P12.1: what no bytes can say is no row either.
func TestNumbersBelowZero(t *testing.T) {
	for _, f := range []fault{
		{"Flow", func(p *api.Pending) { p.Flow = -1 }},
		{"Flow", func(p *api.Pending) { p.Flow = math.MinInt }},
		{"Status", func(p *api.Pending) { p.Status = -1 }},
		{"Ping", func(p *api.Pending) { p.Ping = -1 }},
		{"Ping and Tries", func(p *api.Pending) { p.Ping, p.Tries, p.Due = -1, 0, 0 }},
		{"Tries", func(p *api.Pending) { p.Tries = -1 }},
		{"Client of 65", func(p *api.Pending) { p.Client = strings.Repeat("c", 65) }},
		{"Handle of 33", func(p *api.Pending) { p.Handle += "h" }},
		{"Scope of 257", func(p *api.Pending) { p.Scope = strings.Repeat("s", 257) }},
		{"Subject of 65", func(p *api.Pending) { p.Subject = strings.Repeat("s", 65) }},
		{"Message of 129", func(p *api.Pending) { p.Message = strings.Repeat("m", 129) }},
		{"Notify of 193", func(p *api.Pending) { p.Notify = strings.Repeat("n", 193) }},
	} {
		if b, e := store.PutPending(with(box(9), f.change)); e != api.ErrPending || len(b) != 0 {
			t.Errorf("%s: %q, %d", f.what, b, e)
		}
	}
	for _, c := range []string{"BCDFGHJKL", strings.Repeat("B", 1000)} {
		if _, e := store.PutPending(with(tv(9), func(p *api.Pending) { p.Code = c })); e != api.ErrPending {
			t.Errorf("Code of %d: %d", len(c), e)
		}
	}
	noRow(t, "nothing", api.Pending{})
}

// P12.1: a field's error is told where the field stands, whatever is wrong behind it, or makes no row ahead of it.
func TestPendingFromTheLeft(t *testing.T) {
	most := textMost()
	for _, p := range []api.Pending{tv(300), till(2), box(3), greatest(1), {}, {Flow: 99, Status: 99}} {
		l := fields(p)
		for i, name := range names() {
			ahead, behind := join(l[:i]), join(l[i+1:])
			notRead(t, name+" is missing", ahead, api.ErrShort)
			notRead(t, name+" is cut", ahead+l[i][:len(l[i])-1], api.ErrShort)
			notRead(t, name+" goes on", ahead+"\x80", api.ErrShort)
			for _, rest := range []string{"", behind, "\x80\x00", strings.Repeat("\xff", 10)} {
				notRead(t, name+" ErrForm", ahead+"\x81\x00"+rest, api.ErrForm)
				notRead(t, name+" ErrWide", ahead+"\xff\xff\xff\xff\xff\xff\xff\xff\xff\x02"+rest, api.ErrWide)
			}
			n, isText := most[i]
			if !isText {
				continue
			}
			for _, rest := range []string{"", behind, "\x81\x00"} {
				notRead(t, name+" ErrLong", ahead+text(strings.Repeat("A", n+1))+rest, api.ErrLong)
				notRead(t, name+" ErrLong", ahead+number(uint64(n+1))+rest, api.ErrLong)
				notRead(t, name+" ErrLong", ahead+number(math.MaxUint64)+rest, api.ErrLong)
			}
			notRead(t, name+" ErrShort", ahead+number(uint64(n)), api.ErrShort)
		}
	}
}

// P12.1: a text that is as long as its field may be, in a row that may not have it, is read, and then it is no row.
func TestPendingIsNoRowAtTheEnd(t *testing.T) {
	for i, n := range textMost() {
		for _, p := range []api.Pending{tv(300), till(2), box(3)} {
			l := fields(p)
			l[i] = text(strings.Repeat("\x01", n))
			b := join(l)
			if i == 3 || i == 7 {
				if _, _, e := store.Pending([]byte(b)); e != api.OK {
					t.Errorf("%s of %d: %d", names()[i], n, e)
				}
				continue
			}
			notRead(t, names()[i], b, api.ErrPending)
			notRead(t, names()[i]+", cut", b[:len(b)-1], api.ErrShort)
		}
	}
	for i := range names() {
		l := fields(tv(1))
		l[0] = number(0)
		notRead(t, "cut", join(l[:i+1])[:1], api.ErrShort)
		l[17] = "\x80\x00"
		notRead(t, "Due in another form", join(l), api.ErrForm)
	}
}

// P12.1: a number that is too great for its field is not taken for a small one, however it is cut down.
func TestGreatNumbersDoNotWrap(t *testing.T) {
	p := box(3)
	for i, small := range map[int]uint64{1: 3, 13: 0, 14: 3, 15: 1, 16: 2} {
		for _, high := range []uint64{1 << 8, 1 << 16, 1 << 31, 1 << 32, 1 << 33, 1 << 63, 1<<63 + 1<<32} {
			l := fields(p)
			l[i] = number(high + small)
			notRead(t, names()[i], join(l), api.ErrPending)
			l[i] = number(math.MaxUint64 - small)
			notRead(t, names()[i], join(l), api.ErrPending)
		}
	}
	for _, asked := range []uint64{2, 255, 256, 257, 1<<32 + 1, math.MaxUint64} {
		for _, p := range []api.Pending{tv(1), till(1)} {
			l := fields(p)
			l[13] = number(asked)
			notRead(t, "Asked", join(l), api.ErrPending)
			notRead(t, "Asked", join(l[:17]), api.ErrShort)
		}
	}
}
