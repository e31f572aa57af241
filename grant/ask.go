package grant

import (
	"slices"

	"wicket/api"
	"wicket/codes"
	"wicket/wheel"
)

const (
	mostNotify = 128 // bytes of what a client asks to be told with
	notifyMark = " " // stands between that and the auth_req_id: neither has one
	mostGone   = 60  // forgotten rows that are dropped by one record
)

// Ask: P14.3.
func (e *Engine) Ask(a api.Ask, s *codes.Source) (api.Made, api.Errno) {
	if e == nil {
		return api.Made{}, api.OK
	}
	if !mayBeAsked(a) {
		return api.Made{}, api.ErrArg
	}
	gone := e.gone()
	if e.Count()-len(gone) >= e.most {
		return api.Made{}, api.ErrFull
	}
	n := entry{Engine: e, flow: a.Flow, gone: gone[:min(len(gone), mostGone)]}
	code, err := n.code(s)
	if err != api.OK {
		return api.Made{}, err
	}
	user, err := n.user(s)
	if err != api.OK {
		return api.Made{}, err
	}
	p := e.row(a, code, user)
	if err, _ := e.Do(n.changes(p)...); err != api.OK {
		return api.Made{}, err
	}
	return api.Made{Number: p.Number, Code: code, User: codes.Show(user), Life: life(a), Interval: p.Interval}, api.OK
}

func mayBeAsked(a api.Ask) bool {
	if a.Life > api.MaxLife {
		return false
	}
	switch a.Flow {
	case api.FlowDevice:
		return a.Subject == "" && a.Notify == ""
	case api.FlowPoll:
		return isNamed(a.Subject) && a.Notify == ""
	case api.FlowPing:
		return isNamed(a.Subject) && isNotify(a.Notify)
	}
	return false
}

func isNotify(text string) bool {
	for i := range len(text) {
		if text[i] <= ' ' || text[i] > '~' {
			return false
		}
	}
	return len(text) >= 1 && len(text) <= mostNotify
}

// life is how many seconds go by till what is asked for is over.
func life(a api.Ask) uint64 {
	switch {
	case a.Life > 0:
		return a.Life
	case a.Flow == api.FlowDevice:
		return api.DeviceLife
	}
	return api.CibaLife
}

// gone is the numbers of the rows that are forgotten, rising.
func (e *Engine) gone() []uint64 {
	var numbers []uint64
	for _, p := range e.Store.All().Pending {
		if state(p, e.Now()) == forgotten {
			numbers = append(numbers, p.Number)
		}
	}
	return numbers
}

// row is the one of what is asked for.
func (e *Engine) row(a api.Ask, code, user string) api.Pending {
	p := api.Pending{
		Number:   e.Mark(api.MarkNumber) + 1,
		Flow:     a.Flow,
		Client:   a.Client,
		Handle:   handleOf(a.Flow, code),
		Code:     user,
		Scope:    a.Scope,
		Subject:  a.Subject,
		Message:  a.Message,
		Begun:    e.Now(),
		Expiry:   wheel.Later(e.Now(), life(a)),
		Interval: api.FirstInterval,
		Status:   api.StatusWaiting,
	}
	if a.Flow == api.FlowPing {
		p.Notify = a.Notify + notifyMark + code
	}
	return p
}

// handleOf is the handle of a code that was drawn: it is no longer than one may be.
func handleOf(flow int, code string) string {
	kind := api.HandleAuth
	if flow == api.FlowDevice {
		kind = api.HandleDevice
	}
	handle, _ := codes.Handle(kind, code)
	return handle
}

// entry is what a row comes in with.
type entry struct {
	*Engine
	flow int
	gone []uint64 // the rows that go when it comes, rising: what is drawn may be theirs
}

// code draws what the client is to show.
func (n entry) code(s *codes.Source) (string, api.Errno) {
	if n.flow == api.FlowDevice {
		return draw(s, codes.Device, n.meetsCode)
	}
	return draw(s, codes.Auth, n.meetsCode)
}

// user draws what a person is to type.
func (n entry) user(s *codes.Source) (string, api.Errno) {
	if n.flow != api.FlowDevice {
		return "", api.OK
	}
	return draw(s, codes.User, n.meetsUser)
}

func (n entry) meetsCode(code string) bool {
	return n.stays(n.Handle(handleOf(n.flow, code)))
}

func (n entry) meetsUser(user string) bool {
	return n.stays(n.Code(user))
}

// stays: is there a row, and does it not go?
func (n entry) stays(p api.Pending, there bool) bool {
	_, goes := slices.BinarySearch(n.gone, p.Number)
	return there && !goes
}

// draw draws anew where what was drawn meets another row's.
func draw(s *codes.Source, from func(*codes.Source) (string, api.Errno), meets func(string) bool) (string, api.Errno) {
	for range 1 + api.MaxRetries {
		text, err := from(s)
		if err != api.OK || !meets(text) {
			return text, err
		}
	}
	return "", api.ErrClash
}

// changes are those of the record with which p comes in.
func (n entry) changes(p api.Pending) []api.Change {
	var changes []api.Change
	for _, number := range n.gone {
		changes = append(changes, api.Change{Kind: api.ChangeDrop, Number: number})
	}
	return append(changes, api.Change{Kind: api.ChangeAdd, Pending: p}, mark(api.MarkNumber, p.Number))
}
