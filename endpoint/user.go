package endpoint

import (
	"math"

	"wicket/api"
	"wicket/jtext"
)

const (
	codeName   = "user_code"
	clientName = "client_id"
	yes        = "approve"
	no         = "deny"
)

// look: P16.8.
func (v visit) look() answer {
	subject := v.subject()
	seen, err := v.engine.Look(subject, v.need(codeName))
	succeed(err, spent(), guessed())
	return granted(shown(seen)...)
}

func spent() fault {
	return fault{err: api.ErrSpent, status: 429, why: "too_many_attempts"}
}

func guessed() fault {
	return fault{err: api.ErrGuess, status: 404, why: "unknown_user_code"}
}

// shown is what a user is shown of a request.
func shown(s api.Seen) []member {
	return []member{text(clientName, s.Client), text("scope", s.Scope), text(messageName, s.Message)}
}

// wait: P16.9.
func (v visit) wait() answer {
	waiting := v.engine.Waiting(v.subject())
	var items []api.Json
	for _, s := range waiting[:min(len(waiting), api.MaxWaiting)] {
		items = append(items, object(append([]member{number("request", s.Number)}, shown(s)...)...))
	}
	return granted(member{name: "requests", value: jtext.List(items...)})
}

// decide: P16.10.
func (v visit) decide() answer {
	subject := v.subject()
	decided := v.need("decision")
	if decided != yes && decided != no {
		panic(refusal(400, invalidRequest))
	}
	d := v.meant()
	d.Message, _ = v.parameter(messageName)
	d.Yes = decided == yes
	succeed(v.engine.Decide(subject, d),
		spent(),
		guessed(),
		fault{err: api.ErrNone, status: 404, why: "unknown_request"},
		fault{err: api.ErrOver, status: 400, why: "expired_request"},
		fault{err: api.ErrDecided, status: 400, why: "already_decided"},
		fault{err: api.ErrOther, status: 400, why: "invalid_binding_message"},
	)
	return granted(text("decided", decided))
}

// meant is the request that is decided: by its user code or by its number, not by both.
func (v visit) meant() api.Decision {
	typed, isTyped := v.parameter(codeName)
	said, isSaid := v.parameter("request")
	switch {
	case isTyped == isSaid:
		panic(refusal(400, invalidRequest))
	case isTyped:
		return api.Decision{Typed: typed}
	}
	return api.Decision{Number: whole(said, math.MaxUint64)}
}
