package grant

import (
	"wicket/api"
	"wicket/wheel"
)

// What a row is beside what its Status says.
const (
	forgotten = 0
	over      = api.StatusTaken + 1
)

// may says what may follow on what a request is: whether it may be decided, and whether it may be polled for; where not, what is answered.
var may = [...]struct{ decide, poll api.Errno }{
	forgotten:          {decide: api.ErrNone, poll: api.ErrGrant},
	api.StatusWaiting:  {decide: api.OK, poll: api.OK},
	api.StatusApproved: {decide: api.ErrDecided, poll: api.OK},
	api.StatusDenied:   {decide: api.ErrDecided, poll: api.ErrDenied},
	api.StatusTaken:    {decide: api.ErrDecided, poll: api.ErrGrant},
	over:               {decide: api.ErrOver, poll: api.ErrOver},
}

// state is what p is at that clock.
func state(p api.Pending, clock uint64) int {
	switch {
	case wheel.Later(p.Expiry, api.KeepLife) <= clock:
		return forgotten
	case isOpen(p) && p.Expiry <= clock:
		return over
	}
	return p.Status
}

// isOpen: is something still to come for p, if its time is not over?
func isOpen(p api.Pending) bool {
	return p.Status == api.StatusWaiting || p.Status == api.StatusApproved
}
