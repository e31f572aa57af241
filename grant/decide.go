package grant

import (
	"wicket/api"
	"wicket/codes"
)

// Look: P14.4.
func (e *Engine) Look(subject, typed string) (api.Seen, api.Errno) {
	if e == nil {
		return api.Seen{}, api.OK
	}
	if !isNamed(subject) {
		return api.Seen{}, api.ErrArg
	}
	p, err := e.typed(subject, typed)
	if err != api.OK {
		return api.Seen{}, err
	}
	return seen(p), api.OK
}

// typed is the waiting request whose user code was typed. It takes an attempt, whatever comes of it.
func (e *Engine) typed(subject, typed string) (api.Pending, api.Errno) {
	if _, err := e.guesses.Try(subject, e.Now()); err != api.OK {
		return api.Pending{}, api.ErrSpent
	}
	code, _ := codes.Normal(typed)
	p, is := e.request(e.Code(code))
	if is != api.StatusWaiting {
		return api.Pending{}, api.ErrGuess
	}
	return p, api.OK
}

// Waiting: P14.5.
func (e *Engine) Waiting(subject string) []api.Seen {
	var list []api.Seen
	for _, p := range e.All() {
		if p.Flow != api.FlowDevice && p.Subject == subject && state(p, e.Now()) == api.StatusWaiting {
			list = append(list, seen(p))
		}
	}
	return list
}

func seen(p api.Pending) api.Seen {
	return api.Seen{Number: p.Number, Client: p.Client, Scope: p.Scope, Message: p.Message}
}

// Decide: P14.6.
func (e *Engine) Decide(subject string, d api.Decision) api.Errno {
	if e == nil {
		return api.OK
	}
	if !isNamed(subject) {
		return api.ErrArg
	}
	p, err := e.meant(subject, d)
	if err != api.OK {
		return err
	}
	if p.Message != d.Message {
		return api.ErrOther
	}
	v := verdict{subject: subject, now: e.Now()}
	if d.Yes {
		return e.write(p, v.approve)
	}
	return e.write(p, v.deny)
}

// meant is the request that is decided, if it may be.
func (e *Engine) meant(subject string, d api.Decision) (api.Pending, api.Errno) {
	if d.Typed != "" {
		return e.typed(subject, d.Typed)
	}
	p, is := e.request(e.Number(d.Number))
	if p.Flow == api.FlowDevice || p.Subject != subject {
		return api.Pending{}, api.ErrNone
	}
	return p, may[is].decide
}

// verdict is what somebody decides.
type verdict struct {
	subject string
	now     uint64
}

func (v verdict) approve(p *api.Pending) api.Errno {
	p.Status = api.StatusApproved
	p.Subject = v.subject
	return v.tell(p)
}

func (v verdict) deny(p *api.Pending) api.Errno {
	p.Status = api.StatusDenied
	return v.tell(p)
}

// tell: the client is owed a ping, if it asked for one.
func (v verdict) tell(p *api.Pending) api.Errno {
	if p.Flow == api.FlowPing {
		p.Ping, p.Tries, p.Due = api.PingOwed, 0, v.now
	}
	return api.OK
}
