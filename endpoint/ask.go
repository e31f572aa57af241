package endpoint

import (
	"slices"
	"strings"

	"wicket/api"
	"wicket/client"
	"wicket/codes"
)

const (
	mostNotify  = 128 // bytes of what a client asks to be told with
	messageName = "binding_message"
)

// askForDevice: P16.3.
func (v visit) askForDevice() answer {
	c := v.client()
	if c.Grants&api.GrantDevice == 0 {
		panic(refusal(400, unauthorized))
	}
	made := v.ask(api.Ask{Flow: api.FlowDevice, Client: c.Id, Scope: v.scope(c)})
	uri := v.issuer + verifyPath
	return granted(
		text("device_code", made.Code),
		text("user_code", made.User),
		text("verification_uri", uri),
		text("verification_uri_complete", uri+"?user_code="+made.User),
		number("expires_in", made.Life),
		number("interval", made.Interval),
	)
}

// askForSubject: P16.4.
func (v visit) askForSubject() answer {
	c := v.client()
	if c.Grants&api.GrantCiba == 0 || c.Secret == "" {
		panic(refusal(400, unauthorized))
	}
	a := api.Ask{Flow: api.FlowPoll, Client: c.Id, Scope: v.openScope(c)}
	a.Subject = v.hint()
	a.Message = v.message()
	a.Life = v.life()
	if c.Ping {
		a.Flow, a.Notify = api.FlowPing, v.notify()
	}
	made := v.ask(a)
	return granted(
		text("auth_req_id", made.Code),
		number("expires_in", made.Life),
		number("interval", made.Interval),
	)
}

func (v visit) ask(a api.Ask) api.Made {
	made, err := v.engine.Ask(a, codes.NewSource(v.draws))
	succeed(err)
	return made
}

// scope is what c asks for.
func (v visit) scope(c api.Client) string {
	asked, _ := v.parameter("scope")
	scope, err := client.Scope(c, asked)
	if err != api.OK {
		panic(refusal(400, invalidScope))
	}
	return scope
}

// openScope is what c asks for of somebody by name.
func (v visit) openScope(c api.Client) string {
	scope := v.scope(c)
	if !slices.Contains(strings.Split(scope, " "), "openid") {
		panic(refusal(400, invalidScope))
	}
	return scope
}

// hint is the name of the one who is asked. There are other ways to name somebody, which are not this server's.
func (v visit) hint() string {
	for _, name := range []string{"login_hint_token", "id_token_hint"} {
		if _, there := v.parameter(name); there {
			panic(refusal(400, invalidRequest))
		}
	}
	name := v.need("login_hint")
	if !isRun(name, api.MaxName, ' ') {
		panic(refusal(400, "unknown_user_id"))
	}
	return name
}

func (v visit) message() string {
	message, _ := v.parameter(messageName)
	if !isRun(message, api.MaxMessage, ' ') {
		panic(refusal(400, "invalid_binding_message"))
	}
	return message
}

// life is how long the client wants its request to wait; 0, if it does not say.
func (v visit) life() uint64 {
	said, there := v.parameter("requested_expiry")
	if !there {
		return 0
	}
	return whole(said, api.MaxLife)
}

// notify is what the client wants to be told with.
func (v visit) notify() string {
	notify := v.need("client_notification_token")
	if !isRun(notify, mostNotify, '!') {
		panic(refusal(400, invalidRequest))
	}
	return notify
}
