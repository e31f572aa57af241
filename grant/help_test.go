package grant_test

import (
	"bytes"
	"encoding/binary"
	"math"
	"math/rand"
	"slices"
	"testing"

	"wicket/api"
	"wicket/codes"
	"wicket/disk"
	"wicket/grant"
	"wicket/store"
	"wicket/wal"
)

const (
	roomy = 1 << 24
	last  = uint64(math.MaxUint64)
)

// world is an engine on its disk.
type world struct {
	t    *testing.T
	d    *disk.Disk
	e    *grant.Engine
	most int
}

func diskOf(t *testing.T, room int, files ...api.File) *disk.Disk {
	t.Helper()
	d, err := disk.New(files, room)
	if err != api.OK {
		t.Fatalf("New: %d", err)
	}
	return d
}

func on(t *testing.T, d *disk.Disk, most int) *world {
	t.Helper()
	e, err := grant.Open(d, most)
	if err != api.OK || e == nil {
		t.Fatalf("Open: %v, %d", e, err)
	}
	return &world{t, d, e, most}
}

// begun is an engine on an empty disk.
func begun(t *testing.T, most int) *world {
	t.Helper()
	return on(t, diskOf(t, roomy), most)
}

// again is an engine on what a power failure leaves of w's disk.
func (w *world) again(c api.Crash) *world {
	w.t.Helper()
	return on(w.t, diskOf(w.t, roomy, w.d.Left(c)...), w.most)
}

// tailed is the Crash that keeps so many changes of the directory and so many bytes of each tail.
func tailed(dir, tail int) api.Crash {
	return api.Crash{Dir: dir, Tails: slices.Repeat([]int{tail}, 300)}
}

// all is the Crash that keeps whatever can be kept.
func all() api.Crash { return tailed(math.MaxInt, math.MaxInt) }

func drawnCrash(r *rand.Rand) api.Crash {
	switch r.Intn(6) {
	case 0:
		return all()
	case 1:
		return api.Crash{}
	case 2:
		return tailed(r.Intn(5), math.MaxInt)
	}
	c := api.Crash{Dir: r.Intn(6) - 1}
	for range r.Intn(60) {
		c.Tails = append(c.Tails, r.Intn(200)-2)
	}
	return c
}

// lies is the log on a disk: its state, and the changes of each of its records.
func lies(t *testing.T, d *disk.Disk) (api.Rows, [][]api.Change) {
	t.Helper()
	l, err := wal.Open(diskOf(t, roomy, d.Left(all())...))
	if err != api.OK {
		t.Fatalf("wal.Open: %d", err)
	}
	var state api.Rows
	if len(l.State()) > 0 {
		if state, err = store.Rows(l.State()); err != api.OK {
			t.Fatalf("Rows: %d", err)
		}
	}
	var records [][]api.Change
	for _, b := range l.Records() {
		changes, err := store.Changes(b)
		if err != api.OK {
			t.Fatalf("Changes: %d", err)
		}
		records = append(records, changes)
	}
	return state, records
}

// kept is all rows and marks that lie on a disk.
func kept(t *testing.T, d *disk.Disk) api.Rows {
	t.Helper()
	r, records := lies(t, d)
	for _, changes := range records {
		var err api.Errno
		if r, err, _ = store.Apply(r, api.MaxPending, changes); err != api.OK {
			t.Fatalf("Apply: %d", err)
		}
	}
	return r
}

func same(a, b api.Rows) bool {
	return slices.Equal(a.Pending, b.Pending) && a.Marks == b.Marks
}

// writes: what is done writes just these changes as one record, safely; none: it writes nothing.
func (w *world) writes(what string, want []api.Change, do func()) {
	w.t.Helper()
	state, records := lies(w.t, w.d)
	ops := w.d.Count()
	do()
	if len(want) > 0 {
		records = append(records, want)
		ops += 2
	}
	nowState, nowRecords := lies(w.t, w.d)
	if !same(nowState, state) || !slices.EqualFunc(nowRecords, records, slices.Equal) || w.d.Count() != ops {
		w.t.Fatalf("%s: %d operations, not %d; behind it lies\n%v\nnot\n%v", what, w.d.Count(), ops, nowRecords, records)
	}
	if fileBytes(w.d.Durable()) != fileBytes(w.d.Left(all())) {
		w.t.Fatalf("%s: what it wrote is not safe", what)
	}
}

// silent: what is done writes nothing.
func (w *world) silent(what string, do func()) {
	w.t.Helper()
	w.writes(what, nil, do)
}

func fileBytes(files []api.File) string {
	var b bytes.Buffer
	for _, f := range files {
		b.WriteString(f.Name)
		b.WriteByte(0)
		b.Write(f.Bytes)
	}
	return b.String()
}

func alter(p api.Pending) api.Change { return api.Change{Kind: 2, Pending: p} }
func add(p api.Pending) api.Change   { return api.Change{Kind: 1, Pending: p} }
func drop(n uint64) api.Change       { return api.Change{Kind: 3, Number: n} }

func clockAt(now uint64) api.Change     { return api.Change{Kind: 4, Mark: 0, Value: now} }
func numberAt(number uint64) api.Change { return api.Change{Kind: 4, Mark: 1, Value: number} }

// with is p, changed.
func with(p api.Pending, change func(p *api.Pending)) api.Pending {
	change(&p)
	return p
}

// deviceDraws are the bytes of a device code and of a user code that hang on n.
func deviceDraws(n int) []byte {
	b := binary.BigEndian.AppendUint64(make([]byte, 24), uint64(n))
	for range 8 {
		b = append(b, byte(n%20))
		n /= 20
	}
	return b
}

// authDraws are the bytes of an auth_req_id that hang on n.
func authDraws(n int) []byte {
	return binary.BigEndian.AppendUint64(make([]byte, 16), uint64(n))
}

// sourceOf gives the lists one behind the other.
func sourceOf(lists ...[]byte) *codes.Source {
	return codes.NewSource(slices.Concat(lists...))
}

// tv asks for a television, till for one that polls, box for one that is told.
func tv() api.Ask { return api.Ask{Flow: 1, Client: "tv", Scope: "read"} }
func till() api.Ask {
	return api.Ask{Flow: 2, Client: "till", Scope: "pay", Subject: "ann", Message: "42"}
}
func box() api.Ask {
	return api.Ask{Flow: 3, Client: "box", Scope: "pay more", Subject: "ann", Message: "7", Notify: "tok"}
}

// lasting is a, for that life.
func lasting(a api.Ask, life uint64) api.Ask {
	a.Life = life
	return a
}

// ask asks with draws that hang on the request's number.
func (w *world) ask(a api.Ask) api.Made {
	w.t.Helper()
	n := int(kept(w.t, w.d).Marks[1]) + 1
	draws := authDraws(n)
	if a.Flow == 1 {
		draws = deviceDraws(n)
	}
	m, err := w.e.Ask(a, sourceOf(draws))
	if err != api.OK || m.Number != uint64(n) {
		w.t.Fatalf("Ask: %v, %d", m, err)
	}
	return m
}

// at ticks, and tells which numbers are to be told.
func (w *world) at(now uint64, want ...uint64) {
	w.t.Helper()
	if got, err := w.e.Tick(now); err != api.OK || !slices.Equal(got, want) {
		w.t.Fatalf("Tick(%d): %v, %d, not %v", now, got, err, want)
	}
	if w.e.Now() != now {
		w.t.Fatalf("Tick(%d): it is %d", now, w.e.Now())
	}
}

// row is the request of that number.
func (w *world) row(number uint64) api.Pending {
	w.t.Helper()
	l := w.e.All()
	at := slices.IndexFunc(l, func(p api.Pending) bool { return p.Number == number })
	if at < 0 {
		w.t.Fatalf("there is no request %d", number)
	}
	return l[at]
}

// rows: the requests are those of these numbers.
func (w *world) rows(numbers ...uint64) {
	w.t.Helper()
	var got []uint64
	for _, p := range w.e.All() {
		got = append(got, p.Number)
	}
	if !slices.Equal(got, numbers) {
		w.t.Fatalf("the requests are %v, not %v", got, numbers)
	}
}

// grantOf is the grant with which a client polls in that flow.
func grantOf(flow int) int {
	if flow == 1 {
		return api.GrantDevice
	}
	return api.GrantCiba
}

// poll polls for the request with that code, as its client.
func (w *world) poll(m api.Made, want api.Errno) api.Issued {
	w.t.Helper()
	p := w.row(m.Number)
	i, err := w.e.Poll(p.Client, grantOf(p.Flow), m.Code)
	if err != want || err != api.OK && i != (api.Issued{}) {
		w.t.Fatalf("Poll: %v, %d, not %d", i, err, want)
	}
	return i
}

func (w *world) decide(subject string, d api.Decision, want api.Errno) {
	w.t.Helper()
	if err := w.e.Decide(subject, d); err != want {
		w.t.Fatalf("Decide(%q, %v): %d, not %d", subject, d, err, want)
	}
}

// settle has the request decided by ann, who types no more than she must.
func (w *world) settle(m api.Made, yes bool) {
	w.t.Helper()
	d := api.Decision{Number: m.Number, Message: w.row(m.Number).Message, Yes: yes}
	if m.User != "" {
		d = api.Decision{Typed: m.User, Yes: yes}
	}
	w.decide("ann", d, api.OK)
}

func (w *world) look(subject, typed string, want api.Errno) api.Seen {
	w.t.Helper()
	s, err := w.e.Look(subject, typed)
	if err != want || err != api.OK && s != (api.Seen{}) {
		w.t.Fatalf("Look(%q, %q): %v, %d, not %d", subject, typed, s, err, want)
	}
	return s
}

// pings: these are to be made.
func (w *world) pings(want ...api.Ping) {
	w.t.Helper()
	if got := w.e.Pings(); !slices.Equal(got, want) {
		w.t.Fatalf("at %d, Pings: %v, not %v", w.e.Now(), got, want)
	}
}

func (w *world) pinged(number uint64, outcome int, want api.Errno) {
	w.t.Helper()
	if err := w.e.Pinged(number, outcome); err != want {
		w.t.Fatalf("Pinged(%d, %d): %d, not %d", number, outcome, err, want)
	}
}

// unchanged: what is done changes nothing that can be seen of the engine and its disk.
func (w *world) unchanged(what string, do func()) {
	w.t.Helper()
	rows, now, files := w.e.All(), w.e.Now(), fileBytes(w.d.Left(all()))
	do()
	if !slices.Equal(w.e.All(), rows) || w.e.Now() != now || fileBytes(w.d.Left(all())) != files {
		w.t.Fatalf("%s: something has changed", what)
	}
}
