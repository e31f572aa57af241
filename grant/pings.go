package grant

import (
	"strings"

	"wicket/api"
	"wicket/ping"
)

// Pings: P14.8.
func (e *Engine) Pings() []api.Ping {
	var list []api.Ping
	for _, number := range e.outbox(e.All()...).Due(e.Now()) {
		p, _ := e.Number(number)
		notify, code, _ := strings.Cut(p.Notify, notifyMark)
		list = append(list, api.Ping{
			Number: p.Number,
			Client: p.Client,
			Notify: strings.Clone(notify),
			Code:   strings.Clone(code),
			Tries:  p.Tries,
		})
	}
	return list
}

// Pinged: P14.9.
func (e *Engine) Pinged(number uint64, outcome int) api.Errno {
	if e == nil {
		return api.OK
	}
	p, _ := e.request(e.Number(number))
	d, became, err := e.outbox(p).Outcome(number, outcome, e.Now())
	if err != api.OK {
		return err
	}
	return e.write(p, attempt{after: d, became: became}.note)
}

// outbox is the pings that are owed for these rows.
func (e *Engine) outbox(rows ...api.Pending) *ping.Outbox {
	o, _ := ping.New(api.Policy{Attempts: api.PingAttempts, First: api.PingFirst, Most: api.PingMost})
	for _, p := range rows {
		switch {
		case p.Ping == api.PingOwed:
			o.Owe(api.Delivery{Number: p.Number, Tries: p.Tries, Due: p.Due})
		case p.Flow == api.FlowPing && p.Ping == api.PingNone && state(p, e.Now()) == over:
			o.Owe(api.Delivery{Number: p.Number, Due: p.Expiry})
		}
	}
	return o
}

// attempt is one at a ping: the ping as it is behind it, and what became of it.
type attempt struct {
	after  api.Delivery
	became int
}

func (a attempt) note(p *api.Pending) api.Errno {
	p.Tries, p.Due = a.after.Tries, a.after.Due
	switch a.became {
	case api.JobDone:
		p.Ping = api.PingTold
	case api.JobSkipped:
		p.Ping = api.PingOwed
	default:
		p.Ping = api.PingGiven
	}
	return api.OK
}
