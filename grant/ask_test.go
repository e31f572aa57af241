package grant_test

import (
	"bytes"
	"crypto/sha256"
	"encoding/base64"
	"slices"
	"strings"
	"testing"

	"wicket/api"
	"wicket/codes"
)

// handle is that of a code of a kind, by chapter 9's words.
func handle(kind byte, code string) string {
	sum := sha256.Sum256(append([]byte{kind}, code...))
	return string(sum[:])
}

func base64url(b []byte) string { return base64.RawURLEncoding.EncodeToString(b) }

// P14.3: the row, what is answered, and the record, of each flow.
func TestAskMakesARow(t *testing.T) {
	device, auth := deviceDraws(31), authDraws(32)
	deviceCode, authCode := base64url(device[:32]), base64url(auth)
	user := string("BCDFGHJKLMNPQRSTVWXZ"[31%20]) + "CBBBBBB"
	for _, c := range []struct {
		what string
		ask  api.Ask
		row  api.Pending
		made api.Made
	}{
		{"a device", tv(),
			api.Pending{Flow: 1, Client: "tv", Scope: "read", Handle: handle(1, deviceCode), Code: user, Expiry: 1600},
			api.Made{Code: deviceCode, User: user[:4] + "-" + user[4:], Life: 600}},
		{"a device with a message", api.Ask{Flow: 1, Client: "tv", Message: "\x00\xff", Life: 1},
			api.Pending{Flow: 1, Client: "tv", Message: "\x00\xff", Handle: handle(1, deviceCode), Code: user, Expiry: 1001},
			api.Made{Code: deviceCode, User: user[:4] + "-" + user[4:], Life: 1}},
		{"a till", till(),
			api.Pending{Flow: 2, Client: "till", Scope: "pay", Subject: "ann", Message: "42", Handle: handle(2, authCode), Expiry: 1120},
			api.Made{Code: authCode, Life: 120}},
		{"a box", lasting(box(), 3600),
			api.Pending{Flow: 3, Client: "box", Scope: "pay more", Subject: "ann", Message: "7", Notify: "tok " + authCode, Handle: handle(2, authCode), Expiry: 4600},
			api.Made{Code: authCode, Life: 3600}},
	} {
		w := begun(t, 3)
		w.at(1000)
		for n := uint64(1); n <= 2; n++ {
			s := sourceOf(device, []byte("rest"))
			if c.ask.Flow != 1 {
				s = sourceOf(auth, []byte("rest"))
			}
			if n == 2 {
				w.at(1000 + 5000)
				c.row.Expiry += 5000
			}
			p, m := c.row, c.made
			p.Number, p.Begun, p.Interval, p.Status = n, w.e.Now(), 5, 1
			m.Number, m.Interval = n, 5
			record := []api.Change{add(p), numberAt(n)}
			if n == 2 { // the first one goes
				record = append([]api.Change{drop(1)}, record...)
			}
			w.writes(c.what, record, func() {
				if got, err := w.e.Ask(c.ask, s); err != api.OK || got != m {
					t.Fatalf("%s: %v, %d, not %v", c.what, got, err, m)
				}
			})
			if l := w.e.All(); !slices.Equal(l, []api.Pending{p}) {
				t.Fatalf("%s: %v", c.what, l)
			}
			if s.Left() != 4 {
				t.Errorf("%s: %d bytes are left", c.what, s.Left())
			}
			w.e.Tick(1000 + 4999)
		}
	}
}

// notAsked: Ask answers that error, uses so many bytes, and nothing has changed.
func (w *world) notAsked(what string, a api.Ask, draws []byte, want api.Errno, used int) {
	w.t.Helper()
	s := sourceOf(draws)
	had := s.Left()
	w.unchanged(what, func() {
		if m, err := w.e.Ask(a, s); err != want || m != (api.Made{}) {
			w.t.Fatalf("%s: %v, %d, not %d", what, m, err, want)
		}
	})
	if had-s.Left() != used {
		w.t.Fatalf("%s: %d bytes were used, not %d", what, had-s.Left(), used)
	}
}

// asked: Ask answers OK.
func (w *world) asked(what string, a api.Ask, draws []byte) api.Made {
	w.t.Helper()
	m, err := w.e.Ask(a, sourceOf(draws))
	if err != api.OK {
		w.t.Fatalf("%s: %d", what, err)
	}
	return m
}

// wrongAsks are those that are ErrArg, each for one reason.
func wrongAsks() map[string]api.Ask {
	of := func(a api.Ask, change func(a *api.Ask)) api.Ask {
		change(&a)
		return a
	}
	return map[string]api.Ask{
		"flow 0":                   of(tv(), func(a *api.Ask) { a.Flow = 0 }),
		"flow 4":                   of(box(), func(a *api.Ask) { a.Flow = 4 }),
		"flow 4 of a till":         of(till(), func(a *api.Ask) { a.Flow = 4 }),
		"flow -1":                  of(tv(), func(a *api.Ask) { a.Flow = -1 }),
		"a device that lasts":      lasting(tv(), 3601),
		"a till that lasts":        lasting(till(), 3601),
		"a box that lasts forever": lasting(box(), last),
		"a device of ann":          of(tv(), func(a *api.Ask) { a.Subject = "ann" }),
		"a till of nobody":         of(till(), func(a *api.Ask) { a.Subject = "" }),
		"a box of nobody":          of(box(), func(a *api.Ask) { a.Subject = "" }),
		"a till of a long name":    of(till(), func(a *api.Ask) { a.Subject = strings.Repeat("a", 65) }),
		"a box of a long name":     of(box(), func(a *api.Ask) { a.Subject = strings.Repeat("a", 65) }),
		"a device that is told":    of(tv(), func(a *api.Ask) { a.Notify = "tok" }),
		"a till that is told":      of(till(), func(a *api.Ask) { a.Notify = "tok" }),
		"a box that is not told":   of(box(), func(a *api.Ask) { a.Notify = "" }),
		"a long token":             of(box(), func(a *api.Ask) { a.Notify = strings.Repeat("t", 129) }),
		"a token with a blank":     of(box(), func(a *api.Ask) { a.Notify = "t k" }),
		"a token with a 127":       of(box(), func(a *api.Ask) { a.Notify = "tok\x7f" }),
		"a token with a 0":         of(box(), func(a *api.Ask) { a.Notify = "\x00tok" }),
		"a token with a 255":       of(box(), func(a *api.Ask) { a.Notify = "tok\xff" }),
		"a token with a letter":    of(box(), func(a *api.Ask) { a.Notify = "é" }),
	}
}

// P14.3: what may not be asked for, and what just may.
func TestAskWrong(t *testing.T) {
	w := begun(t, 99)
	w.ask(tv())
	for what, a := range wrongAsks() {
		w.notAsked(what, a, deviceDraws(9), api.ErrArg, 0)
		w.notAsked(what+", no draws", a, nil, api.ErrArg, 0)
	}
	for _, name := range []string{"a", " ", strings.Repeat("a", 64)} {
		a := till()
		a.Subject = name
		w.ask(a)
		a = box()
		a.Subject = name
		w.ask(a)
	}
	for _, token := range []string{"t", "!", "~", strings.Repeat("~", 128)} {
		a := lasting(box(), 3600)
		a.Notify = token
		m := w.ask(a)
		if p := w.row(m.Number); p.Notify != token+" "+m.Code {
			t.Errorf("%q", p.Notify)
		}
	}
}

// P14.3: what the store does not take is told behind the draws, and the number is not used.
func TestAskOfNoRow(t *testing.T) {
	w := begun(t, 99)
	w.ask(tv())
	for what, change := range map[string]func(a *api.Ask){
		"no client":             func(a *api.Ask) { a.Client = "" },
		"a long client":         func(a *api.Ask) { a.Client = strings.Repeat("c", 65) },
		"a client with a byte":  func(a *api.Ask) { a.Client = "c\n" },
		"a long scope":          func(a *api.Ask) { a.Scope = strings.Repeat("s", 257) },
		"a scope with a byte":   func(a *api.Ask) { a.Scope = "\x7f" },
		"a long message":        func(a *api.Ask) { a.Message = strings.Repeat("m", 129) },
		"a subject with a byte": func(a *api.Ask) { a.Subject = "a\x00" },
	} {
		for _, a := range []api.Ask{tv(), till(), box()} {
			used := 24
			if a.Flow == 1 {
				used = 40
				if what == "a subject with a byte" {
					continue
				}
			}
			change(&a)
			w.notAsked(what, a, deviceDraws(9), api.ErrPending, used)
		}
	}
	if m := w.ask(till()); m.Number != 2 {
		t.Errorf("the number is %d", m.Number)
	}
	for _, a := range []api.Ask{
		{Flow: 1, Client: strings.Repeat("c", 64), Scope: strings.Repeat("s", 256), Message: strings.Repeat("\xff", 128), Life: 3600},
		{Flow: 3, Client: strings.Repeat("~", 64), Scope: strings.Repeat("~", 256), Subject: strings.Repeat("~", 64), Message: strings.Repeat("\x00", 128), Notify: strings.Repeat("~", 128)},
	} {
		w.ask(a)
	}
}

// P14.3: ErrArg ahead of ErrFull, that ahead of the draws, those ahead of the store's error.
func TestAskOrder(t *testing.T) {
	w := begun(t, 2)
	noClient := tv()
	noClient.Client = ""
	w.notAsked("dry and no row", noClient, make([]byte, 31), api.ErrDry, 31)
	w.ask(tv())
	w.notAsked("a clash and no row", noClient, bytes.Repeat(deviceDraws(1)[:32], 10), api.ErrClash, 9*32)
	w.ask(till())
	w.notAsked("full and dry", tv(), nil, api.ErrFull, 0)
	w.notAsked("full and no row", noClient, deviceDraws(9), api.ErrFull, 0)
	w.notAsked("full", box(), authDraws(9), api.ErrFull, 0)
	for what, a := range wrongAsks() {
		w.notAsked(what, a, deviceDraws(9), api.ErrArg, 0)
	}
}

// P14.3: most requests, and one more; what is over, denied or taken is one still, what is forgotten is none.
func TestAskFull(t *testing.T) {
	w := begun(t, 3)
	w.settle(w.ask(till()), false)
	taken := w.ask(till())
	w.settle(taken, true)
	w.poll(taken, api.OK)
	w.ask(lasting(till(), 100))
	w.notAsked("full", tv(), deviceDraws(9), api.ErrFull, 0)
	w.at(120, 3)
	w.notAsked("full of what is over", tv(), deviceDraws(9), api.ErrFull, 0)
	w.at(699)
	w.notAsked("full of what is over", tv(), deviceDraws(9), api.ErrFull, 0)
	w.at(700)
	w.rows(1, 2)
	w.ask(tv())
	w.rows(1, 2, 4)
	w.notAsked("full again", tv(), deviceDraws(9), api.ErrFull, 0)
	w.at(720)
	w.ask(tv())
	w.ask(tv())
	w.rows(4, 5, 6)
	w.notAsked("full again", tv(), deviceDraws(9), api.ErrFull, 0)
}

// P14.3: as many as a store may have.
func TestAskMost(t *testing.T) {
	w := begun(t, api.MaxPending)
	for n := range api.MaxPending {
		w.asked("a till", till(), authDraws(n))
	}
	w.notAsked("one more", till(), authDraws(5000), api.ErrFull, 0)
	w.notAsked("one more", tv(), deviceDraws(5000), api.ErrFull, 0)
	w = w.again(all())
	w.notAsked("one more", till(), authDraws(5000), api.ErrFull, 0)
	if l, _ := w.e.Tick(720); len(l) != api.MaxPending || !slices.IsSorted(l) {
		t.Errorf("%d are over", len(l))
	}
	w.rows()
	w.asked("a till", till(), authDraws(5000))
	w.rows(1025)
}

// P14.3: a source that is dry, in each draw; what it had is used.
func TestAskDry(t *testing.T) {
	w := begun(t, 9)
	for n := range 40 {
		w.notAsked("a device", tv(), deviceDraws(7)[:n], api.ErrDry, n)
	}
	for n := range 24 {
		w.notAsked("a till", till(), authDraws(7)[:n], api.ErrDry, n)
		w.notAsked("a box", box(), authDraws(7)[:n], api.ErrDry, n)
	}
	w.notAsked("bytes that make no letter", tv(), append(deviceDraws(7)[:39], bytes.Repeat([]byte{240}, 50)...), api.ErrDry, 89)
	if m, err := w.e.Ask(tv(), nil); err != api.ErrDry || m != (api.Made{}) {
		t.Errorf("no source: %v, %d", m, err)
	}
	w.ask(tv())
	clash := deviceDraws(1)
	for n := range 32 {
		w.notAsked("a code anew", tv(), slices.Concat(clash[:32], clash[:n]), api.ErrDry, 32+n)
	}
	for n := range 8 {
		w.notAsked("a user code anew", tv(), slices.Concat(deviceDraws(7)[:32], clash[32:], clash[32:32+n]), api.ErrDry, 40+n)
	}
	w.ask(till())
	for n := range 24 {
		w.notAsked("an auth_req_id anew", box(), slices.Concat(authDraws(2), authDraws(2)[:n]), api.ErrDry, 24+n)
	}
}

// P14.3: a code that clashes MaxRetries times, and once more.
func TestAskClash(t *testing.T) {
	w := begun(t, 99)
	w.ask(tv())
	w.ask(till())
	w.ask(box())
	code, user, auth := deviceDraws(1)[:32], deviceDraws(1)[32:], authDraws(2)
	next := 100
	for n := range 12 {
		next++
		own := deviceDraws(next)
		codesAgain, usersAgain := bytes.Repeat(code, n), bytes.Repeat(user, n)
		if n > api.MaxRetries {
			w.notAsked("a device code", tv(), slices.Concat(codesAgain, own), api.ErrClash, 9*32)
			w.notAsked("a user code", tv(), slices.Concat(own[:32], usersAgain, own[32:]), api.ErrClash, 32+9*8)
			w.notAsked("an auth_req_id", till(), slices.Concat(bytes.Repeat(auth, n), authDraws(next)), api.ErrClash, 9*24)
			w.notAsked("an auth_req_id", box(), slices.Concat(bytes.Repeat(authDraws(3), n), authDraws(next)), api.ErrClash, 9*24)
			continue
		}
		s := sourceOf(codesAgain, own[:32], usersAgain, own[32:])
		m, err := w.e.Ask(tv(), s)
		if err != api.OK || m.Code != base64url(own[:32]) || s.Left() != 0 {
			t.Fatalf("%d clashes: %v, %d, %d left", n, m, err, s.Left())
		}
		s = sourceOf(bytes.Repeat(auth, n), authDraws(next))
		m, err = w.e.Ask(box(), s)
		if err != api.OK || m.Code != base64url(authDraws(next)) || s.Left() != 0 {
			t.Fatalf("%d clashes: %v, %d, %d left", n, m, err, s.Left())
		}
	}
}

// P14.3: the codes of two kinds do not clash, though they were drawn alike; bytes that make no letter do not count as a draw.
func TestAskNoClash(t *testing.T) {
	w := begun(t, 9)
	w.asked("a device", tv(), make([]byte, 40))
	w.asked("a till", till(), make([]byte, 24))
	skipped := slices.Concat(deviceDraws(5)[:32], bytes.Repeat([]byte{255}, 100), deviceDraws(5)[32:])
	w.asked("a device", tv(), skipped)
}

// P14.3: what is over, denied or taken still has its codes; what is forgotten has them till it is dropped, which is in the same record.
func TestAskForTheCodesOfOthers(t *testing.T) {
	w := begun(t, 9)
	m := w.ask(tv())
	w.settle(m, true)
	w.poll(m, api.OK)
	w.settle(w.ask(till()), false)
	w.ask(lasting(tv(), 720))
	for _, now := range []uint64{0, 599, 600, 719} {
		w.e.Tick(now)
		w.notAsked("a device code", tv(), bytes.Repeat(deviceDraws(1)[:32], 9), api.ErrClash, 9*32)
		w.notAsked("a user code", tv(), append(deviceDraws(7)[:32], bytes.Repeat(deviceDraws(1)[32:], 9)...), api.ErrClash, 32+9*8)
		w.notAsked("an auth_req_id", till(), bytes.Repeat(authDraws(2), 9), api.ErrClash, 9*24)
	}
	w.e.Tick(1200)
	w.rows(3)
	w.notAsked("of one that is left", tv(), bytes.Repeat(deviceDraws(3)[:32], 9), api.ErrClash, 9*32)
	if m := w.asked("both are free", tv(), deviceDraws(1)); m.Number != 4 || m.Code != base64url(deviceDraws(1)[:32]) {
		t.Errorf("%v", m)
	}
	w.rows(3, 4)
	if r := kept(t, w.d); len(r.Pending) != 2 {
		t.Errorf("%v", r)
	}
}

// P14.3: sixty forgotten rows are dropped at most, those of the least numbers; the others have their codes still.
func TestAskDropsSixty(t *testing.T) {
	w := begun(t, 200)
	for n := range 130 {
		a := lasting(till(), 1)
		if n%10 == 9 { // these stay longer
			a.Life = 3600
		}
		w.asked("a till", a, authDraws(n+1))
	}
	w.e.Tick(601)
	var forgotten, stay []uint64
	for n := uint64(1); n <= 130; n++ {
		if n%10 == 0 {
			stay = append(stay, n)
		} else {
			forgotten = append(forgotten, n)
		}
	}
	w.rows(stay...)
	if err := w.e.Compact(); err != api.OK {
		t.Fatal(err)
	}
	for _, many := range []int{60, 57, 0} {
		draws := authDraws(int(kept(t, w.d).Marks[1]) + 1)
		if many == 60 {
			// The sixty-first row's auth_req_id is taken; that of the sixtieth is free.
			w.notAsked("of one that is forgotten but not dropped", till(), bytes.Repeat(authDraws(int(forgotten[60])), 9), api.ErrClash, 9*24)
			w.notAsked("of the last one", till(), bytes.Repeat(authDraws(129), 9), api.ErrClash, 9*24)
			draws = authDraws(int(forgotten[59]))
		}
		_, records := lies(t, w.d)
		m := w.asked("a till", till(), draws)
		var want []api.Change
		for _, n := range forgotten[:many] {
			want = append(want, drop(n))
		}
		forgotten = forgotten[many:]
		stay = append(stay, m.Number)
		want = append(want, add(w.row(m.Number)), numberAt(m.Number))
		_, now := lies(t, w.d)
		if len(now) != len(records)+1 || !slices.Equal(now[len(records)], want) {
			t.Fatalf("%v\nnot\n%v", now[len(records):], want)
		}
		w.rows(stay...)
	}
	if r := kept(t, w.d); len(r.Pending) != len(stay) {
		t.Errorf("%d rows", len(r.Pending))
	}
}

// P14.3: a table that is full of forgotten rows takes a new one.
func TestAskAmongTheForgotten(t *testing.T) {
	w := begun(t, 100)
	for n := range 100 {
		w.asked("a till", till(), authDraws(n))
	}
	w.e.Tick(720)
	for n := range 100 {
		w.asked("a till", till(), authDraws(200+n))
	}
	w.notAsked("one more", till(), authDraws(500), api.ErrFull, 0)
}

// P14.3, 14.1: at the end of the times an Expiry is cut off.
func TestAskExpiry(t *testing.T) {
	for _, c := range []struct{ now, life, expiry uint64 }{
		{0, 1, 1}, {5, 0, 605}, {1 << 40, 3600, 1<<40 + 3600}, {last - 600, 0, last}, {last - 599, 0, last}, {last - 1, 1, last}, {last - 1, 3600, last},
	} {
		w := begun(t, 2)
		w.e.Tick(c.now)
		m := w.ask(lasting(tv(), c.life))
		life := c.life
		if life == 0 {
			life = 600
		}
		if p := w.row(1); p.Begun != c.now || p.Expiry != c.expiry || m.Life != life {
			t.Errorf("%v: %v, %v", c, p, m)
		}
	}
}

// P14.3: the store's error: nothing has come of it.
func TestAskOnADeadDisk(t *testing.T) {
	for n := 1; n <= 2; n++ {
		for _, a := range []api.Ask{tv(), till(), box()} {
			w := begun(t, 2)
			w.ask(lasting(tv(), 1))
			w.ask(till())
			w.at(601, 1, 2)
			rows := w.e.All()
			w.d.Arm(n)
			for _, want := range []api.Errno{api.ErrDead, api.ErrBroken} {
				s := codes.NewSource(deviceDraws(9))
				if m, err := w.e.Ask(a, s); err != want || m != (api.Made{}) || !slices.Equal(w.e.All(), rows) || s.Left() > 16 {
					t.Fatalf("Ask: %v, %d", m, err)
				}
			}
			before := w.again(api.Crash{})
			before.rows(2)
			if m := before.ask(till()); m.Number != 3 {
				t.Errorf("%v", m)
			}
			if behind := w.again(all()); n == 2 {
				behind.rows(2, 3)
			} else {
				behind.rows(2)
			}
		}
	}
}
