package grant

import (
	"wicket/api"
	"wicket/codes"
	"wicket/wheel"
)

// Poll: P14.7.
func (e *Engine) Poll(client string, grant int, code string) (api.Issued, api.Errno) {
	if e == nil {
		return api.Issued{}, api.OK
	}
	p, err := e.shown(client, grant, code)
	if err != api.OK {
		return api.Issued{}, err
	}
	if err := e.write(p, e.polled(p)); err != api.OK {
		return api.Issued{}, err
	}
	return api.Issued{
		Number:  p.Number,
		Client:  p.Client,
		Subject: p.Subject,
		Scope:   p.Scope,
		Issued:  e.Now(),
		Expires: wheel.Later(e.Now(), api.TokenLife),
	}, api.OK
}

// shown is the request whose code a client shows, if it may be polled for.
func (e *Engine) shown(client string, grant int, code string) (api.Pending, api.Errno) {
	kind := 0
	switch grant {
	case api.GrantDevice:
		kind = api.HandleDevice
	case api.GrantCiba:
		kind = api.HandleAuth
	}
	handle, _ := codes.Handle(kind, code)
	p, is := e.request(e.Handle(handle))
	if p.Client != client {
		return api.Pending{}, api.ErrGrant
	}
	return p, may[is].poll
}

// polled is what a poll is to p, which may be polled for.
func (e *Engine) polled(p api.Pending) call {
	now := poll(e.Now())
	switch {
	case p.Asked && e.Now() < wheel.Later(p.Polled, p.Interval):
		return now.slow
	case p.Status == api.StatusWaiting:
		return now.wait
	}
	return now.take
}

// poll is one, by the clock at which it comes.
type poll uint64

func (now poll) slow(p *api.Pending) api.Errno {
	p.Interval = wheel.Later(p.Interval, api.SlowStep)
	p.Polled = uint64(now)
	return api.ErrSlow
}

func (now poll) wait(p *api.Pending) api.Errno {
	p.Asked, p.Polled = true, uint64(now)
	return api.ErrWait
}

func (now poll) take(p *api.Pending) api.Errno {
	p.Status = api.StatusTaken
	p.Asked, p.Polled = true, uint64(now)
	if p.Ping == api.PingOwed {
		p.Ping = api.PingGiven
	}
	return api.OK
}
