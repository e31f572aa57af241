package endpoint_test

import (
	"strings"
	"testing"

	"wicket/api"
)

// clientWay is a route of the clients, with a form that says enough, and what then comes of a client that may not ask there.
type clientWay struct {
	path, form string
	proved     map[string]string // by the client
}

func clientWays() []clientWay {
	unauthorized := refusal(400, "unauthorized_client")
	unsupported := refusal(400, "unsupported_grant_type")
	inactive := sent(200, `{"active":false}`)
	return []clientWay{
		{"/device_authorization", "a=1", map[string]string{"till": unauthorized, "box": unauthorized}},
		{"/bc-authorize", "scope=openid", map[string]string{"tv": unauthorized, "open": unauthorized, "till": refusal(400, "invalid_request")}},
		{"/token", "grant_type=x", map[string]string{"tv": unsupported, "till": unsupported, "box": unsupported, "both": unsupported, "open": unsupported}},
		{"/introspect", "token=x", map[string]string{"tv": unauthorized, "open": unauthorized, "till": inactive, "box": inactive, "both": inactive}},
	}
}

// P16.2: the client shows that it asks, by its header, by the form, or by its name alone.
func TestClientShown(t *testing.T) {
	w := begun(t)
	for _, y := range clientWays() {
		for id, want := range y.proved {
			switch id {
			case "tv", "open":
				w.gets(post(y.path, y.form+"&client_id="+id), want)
				w.gets(post(y.path, y.form+"&client_id="+id+"&client_secret="), want)
				w.gets(post(y.path, y.form+"&client_id="+id, "authorization:\r\n"), want)
			case "till":
				w.gets(post(y.path, y.form+"&client_id=till&client_secret=t+:%2F"), want)
				w.gets(post(y.path, "client_secret=%74%20%3a/&"+y.form+"&client_id=t%69ll"), want)
				w.gets(post(y.path, y.form, till()), want)
				w.gets(post(y.path, y.form, basic("t%69ll", "t%20%3A/")), want)
				w.gets(post(y.path, y.form+"&client_id=till", strings.Replace(till(), "authorization: Basic", "AUTHORIZATION:bAsIc  ", 1)), want)
			case "box":
				w.gets(post(y.path, y.form, box()), want)
				w.gets(post(y.path, y.form+"&client_id=box&client_secret=s", "authorization:  \t\r\n"), want)
			}
		}
	}
}

// P16.2: a client that does not show who it is, is told so alike at every route; where it tried by a header, with the way to try again.
func TestClientUnknown(t *testing.T) {
	w := begun(t)
	for _, y := range clientWays() {
		for _, form := range []string{
			"", "client_id=", "client_id=no", "client_id=TV", "client_id=tv&client_secret=x", "client_id=till", "client_id=till&client_secret=", "client_id=till&client_secret=t",
			"client_id=till&client_secret=t+:%2Fx", "client_id=box&client_secret=S", "client_secret=s", "client_id=no&client_secret=s", "client_id=" + long(300), "client_id=%00",
		} {
			w.refuses(post(y.path, y.form+"&"+form), 401, "invalid_client")
			w.refuses(post(y.path, y.form+"&"+form, "authorization:\r\n"), 401, "invalid_client")
		}
		for _, header := range []string{
			basic("box", "x"), basic("box", ""), basic("tv", ""), basic("tv", "x"), basic("no", "s"), basic("", ""), basic("till", "t :/x"),
			"authorization: x\r\n", "authorization: Basic\r\n", "authorization: Basic ?\r\n", "authorization: Bearer t\r\n", "authorization: Basic Ym94OnM\r\n", "authorization: Basic " + strings.Repeat("QUFB", 400) + "\r\n",
		} {
			w.refuses(post(y.path, y.form, header), 401, "invalid_client", askBasic)
			w.refuses(post(y.path, y.form+"&client_id=tv", header), 401, "invalid_client", askBasic)
		}
		w.refuses(post(y.path, y.form+"&client_id=till", box()), 401, "invalid_client", askBasic)
		w.refuses(post(y.path, y.form+"&client_id=tv", box()), 401, "invalid_client", askBasic)
	}
}

// P16.2: what is there twice is refused, whatever it says, and so is a client that shows who it is in two ways.
func TestClientTwice(t *testing.T) {
	w := begun(t)
	for _, y := range clientWays() {
		for _, form := range []string{"client_id=tv&client_id=tv", "client_id=&client_id=", "client_id=tv&client_secret=&client_secret=", "client_id=box&client_secret=s&client_secret=s", "client_id=no&client_id=one"} {
			w.bad(post(y.path, y.form+"&"+form))
			w.bad(post(y.path, y.form+"&"+form, box()))
			w.bad(post(y.path, y.form+"&"+form, "authorization: x\r\n"))
		}
		w.bad(post(y.path, y.form+"&client_id=box&client_secret=s", box()))
		w.bad(post(y.path, y.form+"&client_secret=x", box()))
		w.bad(post(y.path, y.form, box(), box()))
		w.bad(post(y.path, y.form, box(), "Authorization:\r\n"))
		w.bad(post(y.path, y.form+"&client_id=tv", "authorization:\r\n", "AUTHORIZATION:\r\n"))
		w.bad(post(y.path, y.form+"&client_id=no", "authorization: x\r\n", "authorization: y\r\n"))
	}
}

// P16.2: nothing that the form says beside counts ahead of the client.
func TestClientFirst(t *testing.T) {
	w := begun(t)
	twice := ""
	for _, name := range []string{"scope", "grant_type", "device_code", "auth_req_id", "token", "login_hint", "login_hint_token", "id_token_hint", "binding_message", "requested_expiry", "client_notification_token"} {
		twice += name + "=1&" + name + "=1&"
	}
	for _, y := range clientWays() {
		w.refuses(post(y.path, twice+"client_id=no"), 401, "invalid_client")
		w.refuses(post(y.path, twice, basic("no", "one")), 401, "invalid_client", askBasic)
		w.refuses(post(y.path, twice, user("ann"), user("ann")), 401, "invalid_client")
	}
}

// P16.2: a client is asked for nothing where a user is, and a user for nothing where a client is.
func TestOtherFields(t *testing.T) {
	w := begun(t)
	w.grants(get("/waiting", user("ann"), "authorization: x\r\n", "authorization: y\r\n"), `{"requests":[]}`)
	w.grants(get("/waiting?client_id=a&client_id=b", user("ann")), `{"requests":[]}`)
	w.grants(post("/introspect", "token=x", box(), user("a"), user("b")), `{"active":false}`)
	w.grants(get("/.well-known/oauth-authorization-server?client_id=a&client_id=a", user("a"), user("b"), box(), till()), metadata("https://w"))
}

// userWay is a request of a user's, and what is answered.
type userWay struct {
	raw  func(fields ...string) string
	want func(w *world, raw string)
}

func userWays() []userWay {
	return []userWay{
		{func(f ...string) string { return get("/verify?user_code=b", f...) }, func(w *world, raw string) { w.refuses(raw, 404, "unknown_user_code") }},
		{func(f ...string) string { return get("/waiting", f...) }, func(w *world, raw string) { w.grants(raw, `{"requests":[]}`) }},
		{func(f ...string) string { return post("/decide", "decision=deny&request=9", f...) }, func(w *world, raw string) { w.refuses(raw, 404, "unknown_request") }},
	}
}

// P16.2: a subject has a name of 1 to MaxName bytes.
func TestSubject(t *testing.T) {
	w := begun(t)
	for _, y := range userWays() {
		for _, name := range []string{"a", "ann", long(63), long(api.MaxName), "a b", "~", "!", "\"\\"} {
			y.want(w, y.raw(user(name)))
			y.want(w, y.raw("USER:"+name+"\t\r\n"))
		}
		for _, fields := range []string{"", "user:\r\n", "user: \t\r\n", user(long(api.MaxName + 1)), user(long(4096)), "users: ann\r\n", "use: ann\r\n", box()} {
			w.refuses(y.raw(fields), 401, "login_required")
		}
	}
}

// P16.2: a field user that is there twice is refused, whatever it says.
func TestSubjectTwice(t *testing.T) {
	w := begun(t)
	for _, y := range userWays() {
		w.bad(y.raw(user("ann"), user("ann")))
		w.bad(y.raw(user("ann"), "User:\r\n"))
		w.bad(y.raw("user:\r\n", "USER:\r\n"))
		w.bad(y.raw(user(long(100)), user(long(100))))
	}
}

// P16.2: the subject counts ahead of every parameter.
func TestSubjectFirst(t *testing.T) {
	w := begun(t)
	const twice = "decision=1&decision=1&user_code=1&user_code=1&request=1&request=1&binding_message=1&binding_message=1"
	for _, s := range []string{get("/verify"), get("/verify?" + twice), get("/waiting?" + twice), post("/decide", ""), post("/decide", twice)} {
		w.refuses(s, 401, "login_required")
	}
}

// P16.2: in the name every byte counts.
func TestSubjectBytes(t *testing.T) {
	w := begun(t)
	w.ciba(till(), "scope=openid&login_hint="+long(api.MaxName))
	w.ciba(till(), "scope=openid&login_hint=a+b")
	one := func(n string) string {
		return `{"requests":[{"request":` + n + `,"client_id":"till","scope":"openid","binding_message":""}]}`
	}
	w.grants(get("/waiting", user(long(api.MaxName))), one("1"))
	w.grants(get("/waiting", user("a b")), one("2"))
	for _, name := range []string{long(63), "a  b", "A b", "a", strings.ToUpper(long(api.MaxName))} {
		w.grants(get("/waiting", user(name)), `{"requests":[]}`)
	}
}
