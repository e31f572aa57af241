package grant_test

import (
	"cmp"
	"math/bits"
	"slices"
	"strings"

	"wicket/api"
	"wicket/codes"
	"wicket/store"
)

// engine is what both an Engine and the slow one are.
type engine interface {
	Now() uint64
	Tick(now uint64) ([]uint64, api.Errno)
	Ask(a api.Ask, s *codes.Source) (api.Made, api.Errno)
	Look(subject, typed string) (api.Seen, api.Errno)
	Waiting(subject string) []api.Seen
	Decide(subject string, d api.Decision) api.Errno
	Poll(client string, grant int, code string) (api.Issued, api.Errno)
	Pings() []api.Ping
	Pinged(number uint64, outcome int) api.Errno
	Compact() api.Errno
	All() []api.Pending
}

// slow is an engine by the chapter's words, which goes through all rows each time. What a call writes is laid in record; done does it.
type slow struct {
	most   int
	rows   api.Rows
	since  map[string]uint64
	tries  map[string]int
	record []api.Change
}

func newSlow(most int, rows api.Rows) *slow {
	return &slow{most: most, rows: rows, since: map[string]uint64{}, tries: map[string]int{}}
}

func (m *slow) done() {
	if len(m.record) > 0 {
		m.rows, _, _ = store.Apply(m.rows, m.most, m.record)
	}
	m.record = nil
}

// try lays the record in, if the store takes it.
func (m *slow) try(answer api.Errno, record ...api.Change) api.Errno {
	if _, err, _ := store.Apply(m.rows, m.most, record); err != api.OK {
		return err
	}
	m.record = record
	return answer
}

func sum(a, b uint64) uint64 {
	s, carry := bits.Add64(a, b, 0)
	if carry > 0 {
		return last
	}
	return s
}

func (m *slow) Now() uint64 { return m.rows.Marks[0] }

// is says by 14.1's words what a row is at a clock.
func is(p api.Pending, clock uint64) string {
	status := []string{"", "waiting", "approved", "denied", "taken"}[p.Status]
	if !(sum(p.Expiry, 600) > clock) {
		return "forgotten"
	}
	if !(p.Expiry > clock) && (status == "waiting" || status == "approved") {
		return "over"
	}
	return status
}

func (m *slow) All() []api.Pending {
	var l []api.Pending
	for _, p := range m.rows.Pending {
		if is(p, m.Now()) != "forgotten" {
			l = append(l, p)
		}
	}
	return l
}

func (m *slow) Tick(now uint64) ([]uint64, api.Errno) {
	if now < m.Now() {
		return nil, api.ErrGone
	}
	var l []api.Pending
	for _, p := range m.All() {
		isOver := p.Expiry <= now && (p.Status == 1 || p.Status == 2)
		if isOver && is(p, m.Now()) != "over" {
			l = append(l, p)
		}
	}
	slices.SortFunc(l, func(a, b api.Pending) int {
		return cmp.Or(cmp.Compare(a.Expiry, b.Expiry), cmp.Compare(a.Number, b.Number))
	})
	var numbers []uint64
	for _, p := range l {
		numbers = append(numbers, p.Number)
	}
	return numbers, m.try(api.OK, clockAt(now))
}

func slowWrong(a api.Ask) bool {
	named := len(a.Subject) >= 1 && len(a.Subject) <= 64
	if a.Flow != 1 && a.Flow != 2 && a.Flow != 3 || a.Life > 3600 {
		return true
	}
	if a.Flow == 1 && a.Subject != "" || a.Flow != 1 && !named {
		return true
	}
	if a.Flow != 3 {
		return a.Notify != ""
	}
	odd := func(c rune) bool { return c < 33 || c > 126 }
	return a.Notify == "" || len(a.Notify) > 128 || strings.ContainsFunc(a.Notify, odd)
}

// slowDraw draws up to nine times, till what was drawn is no other row's.
func slowDraw(draw func() (string, api.Errno), meets func(text string) bool) (string, api.Errno) {
	for clashes := 0; ; clashes++ {
		if clashes == 9 {
			return "", api.ErrClash
		}
		text, err := draw()
		if err != api.OK || !meets(text) {
			return text, err
		}
	}
}

func slowCode(s *codes.Source, size int) (string, api.Errno) {
	var b []byte
	for len(b) < size {
		c, err := s.Byte()
		if err != api.OK {
			return "", err
		}
		b = append(b, c)
	}
	return base64url(b), api.OK
}

func slowUser(s *codes.Source) (string, api.Errno) {
	code := ""
	for len(code) < 8 {
		c, err := s.Byte()
		if err != api.OK {
			return "", err
		}
		if c < 240 {
			code += "BCDFGHJKLMNPQRSTVWXZ"[c%20 : c%20+1]
		}
	}
	return code, api.OK
}

func (m *slow) Ask(a api.Ask, s *codes.Source) (api.Made, api.Errno) {
	if slowWrong(a) {
		return api.Made{}, api.ErrArg
	}
	if len(m.All()) >= m.most {
		return api.Made{}, api.ErrFull
	}
	var record []api.Change
	var left []api.Pending
	for _, p := range m.rows.Pending {
		if is(p, m.Now()) == "forgotten" && len(record) < 60 {
			record = append(record, drop(p.Number))
		} else {
			left = append(left, p)
		}
	}
	kind, size, life := byte(2), 24, uint64(120)
	if a.Flow == 1 {
		kind, size, life = 1, 32, 600
	}
	if a.Life != 0 {
		life = a.Life
	}
	code, err := slowDraw(func() (string, api.Errno) { return slowCode(s, size) }, func(code string) bool {
		return slices.ContainsFunc(left, func(p api.Pending) bool { return p.Handle == handle(kind, code) })
	})
	if err != api.OK {
		return api.Made{}, err
	}
	user, shown, notify := "", "", ""
	if a.Flow == 1 {
		user, err = slowDraw(func() (string, api.Errno) { return slowUser(s) }, func(user string) bool {
			return slices.ContainsFunc(left, func(p api.Pending) bool { return p.Code == user })
		})
		if err != api.OK {
			return api.Made{}, err
		}
		shown = user[:4] + "-" + user[4:]
	}
	if a.Flow == 3 {
		notify = a.Notify + " " + code
	}
	n := m.rows.Marks[1] + 1
	p := api.Pending{Number: n, Flow: a.Flow, Client: a.Client, Handle: handle(kind, code), Code: user, Scope: a.Scope, Subject: a.Subject, Message: a.Message, Notify: notify, Begun: m.Now(), Expiry: sum(m.Now(), life), Interval: 5, Status: 1}
	if err := m.try(api.OK, append(record, add(p), numberAt(n))...); err != api.OK {
		return api.Made{}, err
	}
	return api.Made{Number: n, Code: code, User: shown, Life: life, Interval: 5}, api.OK
}

// attempt is one of a subject; false, if it has none left.
func (m *slow) attempt(subject string) bool {
	begun, some := m.since[subject]
	if !some || m.Now()-begun >= 60 {
		m.since[subject], m.tries[subject] = m.Now(), 0
	}
	if m.tries[subject] == 5 {
		return false
	}
	m.tries[subject]++
	return true
}

func (m *slow) find(subject, typed string) (api.Pending, api.Errno) {
	if subject == "" || len(subject) > 64 {
		return api.Pending{}, api.ErrArg
	}
	if !m.attempt(subject) {
		return api.Pending{}, api.ErrSpent
	}
	for _, p := range m.All() {
		if p.Flow == 1 && p.Code == slowNormal(typed) && is(p, m.Now()) == "waiting" {
			return p, api.OK
		}
	}
	return api.Pending{}, api.ErrGuess
}

func (m *slow) Look(subject, typed string) (api.Seen, api.Errno) {
	p, err := m.find(subject, typed)
	return api.Seen{Number: p.Number, Client: p.Client, Scope: p.Scope, Message: p.Message}, err
}

func (m *slow) Waiting(subject string) []api.Seen {
	var l []api.Seen
	for _, p := range m.All() {
		if (p.Flow == 2 || p.Flow == 3) && p.Subject == subject && is(p, m.Now()) == "waiting" {
			l = append(l, api.Seen{Number: p.Number, Client: p.Client, Scope: p.Scope, Message: p.Message})
		}
	}
	return l
}

func (m *slow) Decide(subject string, d api.Decision) api.Errno {
	if subject == "" || len(subject) > 64 {
		return api.ErrArg
	}
	var p api.Pending
	if d.Typed != "" {
		var err api.Errno
		if p, err = m.find(subject, d.Typed); err != api.OK {
			return err
		}
	} else {
		l := m.All()
		at := slices.IndexFunc(l, func(p api.Pending) bool { return p.Number == d.Number })
		if at < 0 || l[at].Flow == 1 || l[at].Subject != subject {
			return api.ErrNone
		}
		p = l[at]
		if is(p, m.Now()) == "over" {
			return api.ErrOver
		}
		if is(p, m.Now()) != "waiting" {
			return api.ErrDecided
		}
	}
	if p.Message != d.Message {
		return api.ErrOther
	}
	p.Status = 3
	if d.Yes {
		p.Status, p.Subject = 2, subject
	}
	if p.Flow == 3 {
		p.Ping, p.Tries, p.Due = 1, 0, m.Now()
	}
	return m.try(api.OK, alter(p))
}

func (m *slow) Poll(client string, grant int, code string) (api.Issued, api.Errno) {
	var none api.Issued
	l := m.All()
	at := -1
	if (grant == 1 || grant == 2) && len(code) <= 64 {
		at = slices.IndexFunc(l, func(p api.Pending) bool { return p.Handle == handle(byte(grant), code) })
	}
	if at < 0 || l[at].Client != client || is(l[at], m.Now()) == "taken" {
		return none, api.ErrGrant
	}
	p := l[at]
	switch is(p, m.Now()) {
	case "over":
		return none, api.ErrOver
	case "denied":
		return none, api.ErrDenied
	}
	soon := p.Asked && m.Now() < sum(p.Polled, p.Interval)
	p.Asked, p.Polled = true, m.Now()
	if soon {
		p.Interval = sum(p.Interval, 5)
		return none, m.try(api.ErrSlow, alter(p))
	}
	if p.Status == 1 {
		return none, m.try(api.ErrWait, alter(p))
	}
	p.Status = 4
	if p.Ping == 1 {
		p.Ping = 3
	}
	if err := m.try(api.OK, alter(p)); err != api.OK {
		return none, err
	}
	return api.Issued{Number: p.Number, Client: client, Subject: p.Subject, Scope: p.Scope, Issued: m.Now(), Expires: sum(m.Now(), 3600)}, api.OK
}

// owed is the rows for which a ping is owed, with its Tries and Due.
func (m *slow) owed() []api.Pending {
	var l []api.Pending
	for _, p := range m.All() {
		if p.Flow == 3 && p.Ping == 0 && is(p, m.Now()) == "over" {
			p.Ping, p.Tries, p.Due = 1, 0, p.Expiry
		}
		if p.Ping == 1 {
			l = append(l, p)
		}
	}
	return l
}

func (m *slow) Pings() []api.Ping {
	l := m.owed()
	slices.SortFunc(l, func(a, b api.Pending) int {
		return cmp.Or(cmp.Compare(a.Due, b.Due), cmp.Compare(a.Number, b.Number))
	})
	var pings []api.Ping
	for _, p := range l {
		words := strings.Split(p.Notify, " ")
		if p.Due <= m.Now() {
			pings = append(pings, api.Ping{Number: p.Number, Client: p.Client, Notify: words[0], Code: words[1], Tries: p.Tries})
		}
	}
	return pings
}

func (m *slow) Pinged(number uint64, outcome int) api.Errno {
	l := m.owed()
	at := slices.IndexFunc(l, func(p api.Pending) bool { return p.Number == number })
	if at < 0 {
		return api.ErrNone
	}
	p := l[at]
	p.Tries++
	switch {
	case outcome < 0 || outcome > 2:
		return api.ErrOutcome
	case outcome == 1:
		p.Ping = 2
	case outcome == 2 || p.Tries == 8:
		p.Ping = 3
	default:
		p.Due = sum(m.Now(), []uint64{2, 4, 8, 16, 32, 64, 128}[p.Tries-1])
	}
	return m.try(api.OK, alter(p))
}

func (m *slow) Compact() api.Errno { return api.OK }

// slowNormal is the user code that was typed, if one was.
func slowNormal(typed string) string {
	var code []rune
	for _, c := range strings.ToUpper(typed) {
		if !strings.ContainsRune(" -_./", c) {
			code = append(code, c)
		}
	}
	if len(typed) > 64 || len(code) != 8 || strings.Trim(string(code), "BCDFGHJKLMNPQRSTVWXZ") != "" {
		return ""
	}
	return string(code)
}
