package endpoint

import (
	"strconv"

	"wicket/api"
	"wicket/jtext"
	"wicket/token"
)

const (
	deviceGrant = "urn:ietf:params:oauth:grant-type:device_code"
	cibaGrant   = "urn:openid:params:grant-type:ciba"
	bearer      = "Bearer"
)

// poll: P16.5.
func (v visit) poll() answer {
	c := v.client()
	grant, name := grantOf(v.need("grant_type"))
	code := v.need(name)
	if c.Grants&grant == 0 {
		panic(refusal(400, unauthorized))
	}
	issued, err := v.engine.Poll(c.Id, grant, code)
	succeed(err,
		fault{err: api.ErrGrant, status: 400, why: "invalid_grant"},
		fault{err: api.ErrOver, status: 400, why: "expired_token"},
		fault{err: api.ErrDenied, status: 400, why: "access_denied"},
		fault{err: api.ErrSlow, status: 400, why: "slow_down"},
		fault{err: api.ErrWait, status: 400, why: "authorization_pending"},
	)
	return granted(
		text("access_token", v.sign(issued)),
		text("token_type", bearer),
		number("expires_in", issued.Expires-issued.Issued),
		text("scope", issued.Scope),
	)
}

// grantOf is the grant of that type, and the parameter that has its code.
func grantOf(kind string) (int, string) {
	switch kind {
	case deviceGrant:
		return api.GrantDevice, "device_code"
	case cibaGrant:
		return api.GrantCiba, "auth_req_id"
	}
	panic(refusal(400, "unsupported_grant_type"))
}

// sign is the token of what was issued.
func (v visit) sign(i api.Issued) string {
	signed, err := token.Sign(v.keys[0], api.Claims{
		Issuer:  v.issuer,
		Subject: i.Subject,
		Client:  i.Client,
		Scope:   i.Scope,
		Id:      strconv.FormatUint(i.Number, 10),
		Issued:  i.Issued,
		Expires: i.Expires,
	})
	succeed(err)
	return signed
}

// introspect: P16.6.
func (v visit) introspect() answer {
	if v.client().Secret == "" {
		panic(refusal(400, unauthorized))
	}
	said, err := token.Verify(v.keys, v.need("token"), v.engine.Now())
	if err != api.OK {
		return granted(active(false))
	}
	return granted(
		active(true),
		text("scope", said.Scope),
		text("client_id", said.Client),
		text("sub", said.Subject),
		text("iss", said.Issuer),
		text("jti", said.Id),
		number("iat", said.Issued),
		number("exp", said.Expires),
		text("token_type", bearer),
	)
}

// describe: P16.7.
func (v visit) describe() answer {
	return granted(
		text("issuer", v.issuer),
		text("device_authorization_endpoint", v.issuer+devicePath),
		text("backchannel_authentication_endpoint", v.issuer+cibaPath),
		text("token_endpoint", v.issuer+tokenPath),
		text("introspection_endpoint", v.issuer+introspectPath),
		texts("grant_types_supported", deviceGrant, cibaGrant),
		texts("backchannel_token_delivery_modes_supported", "poll", "ping"),
		texts("token_endpoint_auth_methods_supported", "client_secret_basic", "client_secret_post", "none"),
	)
}

func active(is bool) member {
	return member{name: "active", value: jtext.Bool(is)}
}
