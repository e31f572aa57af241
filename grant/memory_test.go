package grant_test

import (
	"cmp"
	"runtime"
	"slices"
	"strings"
	"testing"
	"unsafe"

	"wicket/api"
	"wicket/codes"
)

// span is a piece of memory, from low up to high.
type span struct{ low, high uintptr }

// room is a list's memory, with its spare room.
func room[T any](l []T) span {
	var one T
	low := uintptr(unsafe.Pointer(unsafe.SliceData(l)))
	return span{low, low + uintptr(cap(l))*unsafe.Sizeof(one)}
}

func spans(texts ...string) []span {
	var list []span
	for _, s := range texts {
		low := uintptr(unsafe.Pointer(unsafe.StringData(s)))
		list = append(list, span{low, low + uintptr(len(s))})
	}
	return list
}

// apart: do no two of the spans share a byte?
func apart(list []span) bool {
	list = slices.DeleteFunc(slices.Clone(list), func(s span) bool { return s.low == s.high })
	slices.SortFunc(list, func(a, b span) int { return cmp.Compare(a.low, b.low) })
	for i := 1; i < len(list); i++ {
		if list[i].low < list[i-1].high {
			return false
		}
	}
	return true
}

func spansOfRows(l []api.Pending) []span {
	list := []span{room(l)}
	for _, p := range l {
		list = append(list, spans(p.Client, p.Handle, p.Code, p.Scope, p.Subject, p.Message, p.Notify)...)
	}
	return list
}

func spansOfSeen(l []api.Seen) []span {
	list := []span{room(l)}
	for _, s := range l {
		list = append(list, spans(s.Client, s.Scope, s.Message)...)
	}
	return list
}

func spansOfPings(l []api.Ping) []span {
	list := []span{room(l)}
	for _, p := range l {
		list = append(list, spans(p.Client, p.Notify, p.Code)...)
	}
	return list
}

// memory is bytes that texts lie over, so that they can be written into.
type memory [][]byte

func (m *memory) own(s string) string {
	p := []byte(s)
	*m = append(*m, p)
	return unsafe.String(unsafe.SliceData(p), len(p))
}

func (m *memory) ask(a api.Ask) api.Ask {
	a.Client, a.Scope, a.Subject = m.own(a.Client), m.own(a.Scope), m.own(a.Subject)
	a.Message, a.Notify = m.own(a.Message), m.own(a.Notify)
	return a
}

func (m *memory) decision(d api.Decision) api.Decision {
	d.Typed, d.Message = m.own(d.Typed), m.own(d.Message)
	return d
}

// isStill: no byte that the texts lie over has changed.
func (m *memory) isStill(texts ...string) bool {
	return slices.EqualFunc(*m, texts, func(p []byte, s string) bool { return string(p) == s })
}

// scribble turns every byte that the texts lie over.
func (m *memory) scribble() {
	for _, p := range *m {
		for i := range p {
			p[i] ^= 0xff
		}
	}
}

// Rule 3: texts that are handed in are neither changed nor kept.
func TestArgumentsAreNotKept(t *testing.T) {
	w := begun(t, 9)
	var m memory
	ask := func(a api.Ask, draws []byte) api.Made {
		t.Helper()
		m = nil
		made, err := w.e.Ask(m.ask(a), sourceOf(draws))
		if err != api.OK || !m.isStill(a.Client, a.Scope, a.Subject, a.Message, a.Notify) {
			t.Fatalf("Ask: %d, %q", err, m)
		}
		m.scribble()
		return made
	}
	told, typed := ask(box(), authDraws(1)), ask(tv(), deviceDraws(2))
	check := func(what string, want ...api.Pending) {
		t.Helper()
		if l := w.e.All(); !slices.Equal(l, want) || !slices.Equal(kept(t, w.d).Pending, want) {
			t.Fatalf("%s: %v, not %v", what, l, want)
		}
	}
	first := api.Pending{Number: 1, Flow: 3, Client: "box", Handle: handle(2, told.Code), Scope: "pay more", Subject: "ann", Message: "7", Notify: "tok " + told.Code, Expiry: 120, Interval: 5, Status: 1}
	second := api.Pending{Number: 2, Flow: 1, Client: "tv", Handle: handle(1, typed.Code), Code: "DBBBBBBB", Scope: "read", Expiry: 600, Interval: 5, Status: 1}
	check("Ask", first, second)
	m = nil
	for range 5 {
		w.e.Look(m.own("bob"), m.own("dbbb-bbbb"))
	}
	m.scribble()
	w.look("bob", "", api.ErrSpent)
	check("Look", first, second)
	m = nil
	if err := w.e.Decide(m.own("carol"), m.decision(api.Decision{Typed: "dbbb-bbbb", Yes: true})); err != api.OK || !m.isStill("carol", "dbbb-bbbb", "") {
		t.Fatalf("Decide: %d, %q", err, m)
	}
	m.scribble()
	second.Status, second.Subject = 2, "carol"
	check("Decide", first, second)
	m = nil
	if err := w.e.Decide(m.own("ann"), m.decision(api.Decision{Number: 1, Message: "7", Yes: true})); err != api.OK {
		t.Fatalf("Decide: %d", err)
	}
	m.scribble()
	first.Status, first.Ping = 2, 1
	check("Decide", first, second)
	m = nil
	if _, err := w.e.Poll(m.own("box"), api.GrantCiba, m.own(told.Code)); err != api.OK || !m.isStill("box", told.Code) {
		t.Fatalf("Poll: %d, %q", err, m)
	}
	m.scribble()
	first.Status, first.Asked, first.Ping = 4, true, 3
	check("Poll", first, second)
	w.e.Waiting(m.own("ann"))
	m.scribble()
	check("Waiting", first, second)
}

// Rule 3: the bytes of a source are used by their order alone; the list from which it was made stays.
func TestDrawsStay(t *testing.T) {
	w := begun(t, 9)
	draws := append(deviceDraws(1), deviceDraws(2)...)
	was := slices.Clone(draws)
	s := codes.NewSource(draws)
	for range 2 {
		if _, err := w.e.Ask(tv(), s); err != api.OK {
			t.Fatal(err)
		}
	}
	if !slices.Equal(draws, was) {
		t.Error("the draws have changed")
	}
}

// Rule 3: answers are new memory; none shares any with another one, within itself, or with what is kept.
func TestAnswersAreNewMemory(t *testing.T) {
	w := begun(t, 9)
	var list []span
	made := func(m api.Made) api.Made {
		list = append(list, spans(m.Code, m.User)...)
		return m
	}
	device := made(w.ask(tv()))
	for range 2 {
		made(w.ask(box()))
		made(w.ask(till()))
		w.settle(made(w.ask(box())), true)
	}
	var m memory
	asker, err := w.e.Ask(m.ask(box()), sourceOf(authDraws(99)))
	if err != api.OK {
		t.Fatal(err)
	}
	for _, p := range m {
		list = append(list, room(p))
	}
	list = append(list, spans(asker.Code)...)
	for range 2 {
		s := w.look("ann", device.User, api.OK)
		list = append(list, spans(s.Client, s.Scope, s.Message)...)
		list = append(list, spansOfRows(w.e.All())...)
		list = append(list, spansOfSeen(w.e.Waiting("ann"))...)
		list = append(list, spansOfPings(w.e.Pings())...)
	}
	w.settle(device, true)
	var clients memory
	client := clients.own("tv")
	i, err := w.e.Poll(client, api.GrantDevice, device.Code)
	if err != api.OK {
		t.Fatal(err)
	}
	list = append(list, spans(client, i.Client, i.Subject, i.Scope)...)
	l, _ := w.e.Tick(120)
	list = append(list, room(l))
	list = append(list, spansOfPings(w.e.Pings())...)
	if len(list) < 100 || !apart(list) {
		t.Errorf("of %d, answers share memory", len(list))
	}
}

// wipe writes over a list and its spare room.
func wipe[T any](l []T) {
	clear(l[:cap(l)])
}

// Rule 3: whoever writes over what was answered changes nothing; and what is done later does not reach it.
func TestAnswersStay(t *testing.T) {
	w := begun(t, 9)
	w.ask(box())
	w.settle(w.ask(box()), false)
	w.ask(till())
	rows, waiting, pings := w.e.All(), w.e.Waiting("ann"), w.e.Pings()
	wipe(w.e.All())
	wipe(w.e.Waiting("ann"))
	wipe(w.e.Pings())
	if !slices.Equal(w.e.All(), rows) || !slices.Equal(w.e.Waiting("ann"), waiting) || !slices.Equal(w.e.Pings(), pings) {
		t.Error("something has changed")
	}
	wasRows, wasWaiting, wasPings := slices.Clone(rows), slices.Clone(waiting), slices.Clone(pings)
	w.decide("ann", api.Decision{Number: 1, Message: "7", Yes: true}, api.OK)
	w.pinged(2, api.OutcomeDone, api.OK)
	w.e.Tick(720)
	w.ask(tv())
	w.e.Compact()
	if !slices.Equal(rows, wasRows) || !slices.Equal(waiting, wasWaiting) || !slices.Equal(pings, wasPings) {
		t.Error("answers have changed")
	}
	told, _ := w.e.Tick(w.e.Now() + 600)
	wipe(told)
	w.at(w.e.Now())
}

// Rule 3: a call that is refused keeps nothing either.
func TestRefusedArgumentsAreNotKept(t *testing.T) {
	w := begun(t, 9)
	w.ask(till())
	rows := w.e.All()
	w.d.Arm(1)
	var m memory
	w.e.Ask(m.ask(box()), sourceOf(authDraws(9)))
	w.e.Decide(m.own("ann"), m.decision(api.Decision{Number: 1, Message: "42", Yes: true}))
	w.e.Look(m.own("eve"), m.own("x"))
	m.scribble()
	if !slices.Equal(w.e.All(), rows) {
		t.Errorf("%v", w.e.All())
	}
	for range 4 {
		w.look("eve", "", api.ErrGuess)
	}
	w.look("eve", "", api.ErrSpent)
}

// What is forgotten is let go: an engine that lives long does not grow.
func TestWhatIsForgottenIsLetGo(t *testing.T) {
	w := begun(t, 9)
	a := lasting(till(), 1)
	a.Message = strings.Repeat("m", 128)
	var before, behind runtime.MemStats
	runtime.GC()
	runtime.ReadMemStats(&before)
	for n := range 3000 {
		w.asked("a till", a, authDraws(n))
		w.e.Look("s"+a.Message[:n%50], "")
		w.e.Tick(w.e.Now() + 601)
	}
	runtime.GC()
	runtime.ReadMemStats(&behind)
	if grown := int64(behind.HeapAlloc) - int64(before.HeapAlloc); grown > 100000 {
		t.Errorf("%d bytes are held", grown)
	}
	if r := kept(t, w.d); len(r.Pending) != 1 {
		t.Errorf("%d rows", len(r.Pending))
	}
	runtime.KeepAlive(w)
}
