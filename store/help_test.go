package store_test

import (
	"encoding/binary"
	"math"
	"math/rand"
	"slices"
	"strconv"
	"strings"
	"testing"

	"wicket/api"
	"wicket/disk"
	"wicket/store"
	"wicket/wal"
)

const roomy = 1 << 24

// handle is 32 bytes that hang on n.
func handle(n uint64) string {
	return string(binary.BigEndian.AppendUint64(make([]byte, 24), n))
}

// code is eight letters that hang on n.
func code(n uint64) string {
	b := []byte("AAAAAAAA")
	for i := 7; i >= 0; i-- {
		b[i] += byte(n % 26)
		n /= 26
	}
	return string(b)
}

// tv is a row of FlowDevice that waits.
func tv(n uint64) api.Pending {
	return api.Pending{Number: n, Flow: 1, Client: "tv", Handle: handle(n), Code: code(n), Scope: "read write", Begun: 100, Expiry: 700, Interval: 5, Status: 1}
}

// till is a row of FlowPoll that somebody has approved.
func till(n uint64) api.Pending {
	return api.Pending{Number: n, Flow: 2, Client: "till", Handle: handle(n), Scope: "pay", Subject: "ann", Message: "42\x00\xff", Begun: 200, Expiry: 320, Interval: 10, Polled: 250, Asked: true, Status: 2}
}

// box is a row of FlowPing whose ping is owed.
func box(n uint64) api.Pending {
	return api.Pending{Number: n, Flow: 3, Client: "box", Handle: handle(n), Subject: "bob", Message: "pay 7", Notify: "tok abc", Begun: 300, Expiry: 420, Interval: 5, Status: 3, Ping: 1, Tries: 2, Due: 306}
}

// greatest is a row in which all is as great as it may be, and all numbers are as long.
func greatest(n uint64) api.Pending {
	return api.Pending{
		Number: math.MaxUint64 - 4096 + n, Flow: 3, Client: strings.Repeat("~", 64), Handle: handle(n), Scope: strings.Repeat("~", 256), Subject: strings.Repeat("~", 64),
		Message: strings.Repeat("\xff", 128), Notify: strings.Repeat("~", 192), Begun: math.MaxUint64, Expiry: math.MaxUint64, Interval: math.MaxUint64, Polled: math.MaxUint64,
		Asked: true, Status: 4, Ping: 3, Tries: 20, Due: math.MaxUint64,
	}
}

// with is p, changed.
func with(p api.Pending, change func(p *api.Pending)) api.Pending {
	change(&p)
	return p
}

func rows(l ...api.Pending) api.Rows { return api.Rows{Pending: l} }

// tvs are count rows, numbered from 1 on.
func tvs(count int) []api.Pending {
	var l []api.Pending
	for i := range count {
		l = append(l, tv(uint64(i+1)))
	}
	return l
}

func add(p api.Pending) api.Change   { return api.Change{Kind: 1, Pending: p} }
func alter(p api.Pending) api.Change { return api.Change{Kind: 2, Pending: p} }
func drop(n uint64) api.Change       { return api.Change{Kind: 3, Number: n} }

func mark(i int, value uint64) api.Change { return api.Change{Kind: 4, Mark: i, Value: value} }

// marks are so many changes that all set mark 0, the last of them to count.
func marks(count int) []api.Change {
	var l []api.Change
	for i := range count {
		l = append(l, mark(0, uint64(i+1)))
	}
	return l
}

func same(a, b api.Rows) bool {
	return slices.Equal(a.Pending, b.Pending) && a.Marks == b.Marks
}

// said is rows as a text that no others have.
func said(r api.Rows) string {
	var s strings.Builder
	for _, p := range r.Pending {
		s.WriteString(strconv.Quote(rowBytes(p)) + "\n")
	}
	for _, m := range r.Marks {
		s.WriteString(strconv.FormatUint(m, 10) + " ")
	}
	return s.String()
}

// numbers are written as chapter 1 says: that is what the library calls a Uvarint.
func number(n uint64) string     { return string(binary.AppendUvarint(nil, n)) }
func text(s string) string       { return number(uint64(len(s))) + s }
func count(n int) string         { return number(uint64(n)) }
func flag(yes bool) string       { return map[bool]string{true: "\x01", false: "\x00"}[yes] }
func zeros(n int) string         { return strings.Repeat("\x00", n) }
func join(parts []string) string { return strings.Join(parts, "") }

// fields are a row's bytes, a field each.
func fields(p api.Pending) []string {
	return []string{
		number(p.Number), count(p.Flow), text(p.Client), text(p.Handle), text(p.Code), text(p.Scope), text(p.Subject), text(p.Message), text(p.Notify),
		number(p.Begun), number(p.Expiry), number(p.Interval), number(p.Polled), flag(p.Asked), count(p.Status), count(p.Ping), count(p.Tries), number(p.Due),
	}
}

// names are those of a row's fields.
func names() []string {
	return strings.Fields("Number Flow Client Handle Code Scope Subject Message Notify Begun Expiry Interval Polled Asked Status Ping Tries Due")
}

// textMost are the texts among a row's fields, and how long they may be.
func textMost() map[int]int {
	return map[int]int{2: 64, 3: 32, 4: 8, 5: 256, 6: 64, 7: 128, 8: 192}
}

func rowBytes(p api.Pending) string { return join(fields(p)) }

func changeBytes(c api.Change) string {
	switch c.Kind {
	case 1, 2:
		return count(c.Kind) + rowBytes(c.Pending)
	case 3:
		return count(c.Kind) + number(c.Number)
	}
	return count(c.Kind) + count(c.Mark) + number(c.Value)
}

func changesBytes(l ...api.Change) string {
	s := count(len(l))
	for _, c := range l {
		s += changeBytes(c)
	}
	return s
}

func markBytes(r api.Rows) string {
	s := ""
	for _, m := range r.Marks {
		s += number(m)
	}
	return s
}

func rowsBytes(r api.Rows) string {
	s := count(len(r.Pending))
	for _, p := range r.Pending {
		s += rowBytes(p)
	}
	return s + markBytes(r)
}

// ok: all of these are OK.
func ok(t *testing.T, errs ...api.Errno) {
	t.Helper()
	for i, e := range errs {
		if e != api.OK {
			t.Fatalf("call %d: %d", i, e)
		}
	}
}

func diskOf(t *testing.T, room int, files ...api.File) *disk.Disk {
	t.Helper()
	d, e := disk.New(files, room)
	if e != api.OK {
		t.Fatalf("New: %d", e)
	}
	return d
}

func opened(t *testing.T, d *disk.Disk, most int) *store.Store {
	t.Helper()
	s, e := store.Open(d, most)
	if e != api.OK || s == nil {
		t.Fatalf("Open: %d", e)
	}
	return s
}

// begun is a store on a new disk.
func begun(t *testing.T, room, most int, files ...api.File) (*disk.Disk, *store.Store) {
	t.Helper()
	d := diskOf(t, room, files...)
	return d, opened(t, d, most)
}

// logOf is a disk with a log that others than a store have written.
func logOf(t *testing.T, state string, records ...string) *disk.Disk {
	t.Helper()
	d := diskOf(t, roomy)
	l, e := wal.Open(d)
	ok(t, e)
	if state != "" {
		ok(t, l.Snapshot([]byte(state)))
	}
	for _, r := range records {
		ok(t, l.Append([]byte(r)))
	}
	ok(t, l.Sync())
	return d
}

// lies is the log that lies on the disk: its state and its records.
func lies(t *testing.T, d *disk.Disk) (string, []string) {
	t.Helper()
	l, e := wal.Open(diskOf(t, roomy, d.Left(all())...))
	ok(t, e)
	var records []string
	for _, r := range l.Records() {
		records = append(records, string(r))
	}
	return string(l.State()), records
}

// does: the store takes the changes.
func does(t *testing.T, s *store.Store, changes ...api.Change) {
	t.Helper()
	if e, at := s.Do(changes...); e != api.OK || at != 0 {
		t.Fatalf("Do: %d, %d", e, at)
	}
}

// has: these are the store's rows, however it is asked.
func has(t *testing.T, s *store.Store, want api.Rows) {
	t.Helper()
	if r := s.All(); !same(r, want) {
		t.Fatalf("the store has\n%s\nnot\n%s", said(r), said(want))
	}
	if fault := unlike(s, want); fault != "" {
		t.Fatalf("%s is not as All tells:\n%s", fault, said(want))
	}
}

// unlike is the way to ask that tells something else than these rows.
func unlike(s *store.Store, want api.Rows) string {
	clients := map[string][]api.Pending{}
	for _, p := range want.Pending {
		clients[p.Client] = append(clients[p.Client], p)
		if q, there := s.Number(p.Number); !there || q != p {
			return "Number"
		}
		if q, there := s.Handle(p.Handle); !there || q != p {
			return "Handle"
		}
		if q, there := s.Code(p.Code); there != (p.Code != "") || there && q != p {
			return "Code"
		}
	}
	for c, l := range clients {
		if !slices.Equal(s.Client(c), l) {
			return "Client"
		}
	}
	for i, m := range want.Marks {
		if s.Mark(i) != m {
			return "Mark"
		}
	}
	if s.Count() != len(want.Pending) {
		return "Count"
	}
	return ""
}

// lacks: nothing leads to that row.
func lacks(t *testing.T, s *store.Store, p api.Pending) {
	t.Helper()
	var zero api.Pending
	if q, there := s.Number(p.Number); there || q != zero {
		t.Errorf("Number(%d): %v", p.Number, q)
	}
	if q, there := s.Handle(p.Handle); there || q != zero {
		t.Errorf("Handle(%q): %v", p.Handle, q)
	}
	if q, there := s.Code(p.Code); there || q != zero {
		t.Errorf("Code(%q): %v", p.Code, q)
	}
	if slices.ContainsFunc(s.Client(p.Client), func(q api.Pending) bool { return q.Number == p.Number }) {
		t.Errorf("Client(%q) has %d", p.Client, p.Number)
	}
}

// look is all that a store and its disk show.
func look(d *disk.Disk, s *store.Store) string {
	l := said(s.All()) + strconv.Itoa(s.Count()) + " " + strconv.Itoa(s.Logged()) + " " + strconv.Itoa(d.Count())
	for _, f := range append(d.Left(all()), d.Durable()...) {
		l += "\n" + f.Name + strconv.Quote(string(f.Bytes))
	}
	return l
}

// refuses: Do answers that, and nothing has changed, of the store and of the disk.
func refuses(t *testing.T, d *disk.Disk, s *store.Store, want api.Errno, wantAt int, changes ...api.Change) {
	t.Helper()
	was, wasRows := look(d, s), s.All()
	if e, at := s.Do(changes...); e != want || at != wantAt {
		t.Errorf("Do: %d, %d, not %d, %d", e, at, want, wantAt)
	}
	if look(d, s) != was {
		t.Errorf("a Do that answers %d has changed something", want)
	}
	has(t, s, wasRows)
}

// tailed is the Crash that keeps so many changes of the directory and so many bytes of each tail.
func tailed(dir, tail int) api.Crash {
	return api.Crash{Dir: dir, Tails: slices.Repeat([]int{tail}, 300)}
}

// all is the Crash that keeps whatever can be kept.
func all() api.Crash { return tailed(math.MaxInt, math.MaxInt) }

func drawnCrash(r *rand.Rand) api.Crash {
	switch r.Intn(6) {
	case 0:
		return all()
	case 1:
		return api.Crash{}
	case 2:
		return tailed(r.Intn(5), math.MaxInt)
	}
	c := api.Crash{Dir: r.Intn(6) - 1}
	for range r.Intn(60) {
		c.Tails = append(c.Tails, r.Intn(200)-2)
	}
	return c
}
