package endpoint_test

import (
	"strings"
	"testing"

	"wicket/api"
)

// example is the world of the chapter's examples.
func example(t *testing.T) *world {
	t.Helper()
	return on(t, with(clients("id=tv&grants=device&scope=read\nid=box&secret=s&grants=ciba&ping=yes&url=https://b/cb&scope=openid+pay")), 9)
}

// The examples of the chapter, in its words.
func TestExamples(t *testing.T) {
	w := example(t)
	w.gets("GET / HTTP/1.1\r\n\r\n", "HTTP/1.1 404 Not Found\r\ncontent-type: application/json\r\ncache-control: no-store\r\ncontent-length: 21\r\n\r\n{\"error\":\"not_found\"}")
	w.refuses(get("/token"), 405, "invalid_request", "allow: POST\r\n")
	w.refuses(raw("POST /token", ""), 415, "invalid_request")
	w.bad(post("/token", "a=%"))
	w.refuses(post("/token", "a=1"), 401, "invalid_client")
	w.refuses(post("/token", "client_id=box"), 401, "invalid_client")

	if got := w.serve(post("/device_authorization", "client_id=tv"), deviceDraws(1)...); !strings.HasPrefix(got, "HTTP/1.1 200 OK\r\n") || !strings.Contains(got, "\r\n\r\n{\"device_code\":\"") {
		t.Errorf("%q", got)
	}
	w.refuses(post("/device_authorization", "client_id=tv&scope=pay"), 400, "invalid_scope")
	w.bad(post("/device_authorization", "client_id=tv&client_id=tv"))
	w.refuses(post("/device_authorization", "", basic("box", "s")), 400, "unauthorized_client")

	w.refuses(post("/token", "client_id=tv&grant_type=x"), 400, "unsupported_grant_type")
	w.bad(post("/token", "client_id=tv&grant_type="+deviceType))
	w.refuses(post("/token", "client_id=tv&grant_type="+deviceType+"&device_code=x"), 400, "invalid_grant")

	w.refuses(get("/verify?user_code=b"), 401, "login_required")
	w.refuses(get("/verify?user_code=b", user("ann")), 404, "unknown_user_code")

	w.bad(post("/bc-authorize", "scope=openid&login_hint=ann", basic("box", "s")))
	w.refuses(post("/bc-authorize", "scope=pay", basic("box", "s")), 400, "invalid_scope")

	isSent(t, w.f, api.Ping{Number: 1, Client: "box", Notify: "tok", Code: "C"},
		"POST /cb HTTP/1.1\r\nhost: b\r\nauthorization: Bearer tok\r\ncontent-type: application/json\r\ncontent-length: 19\r\n\r\n{\"auth_req_id\":\"C\"}")
}

// A television's way, from its asking to the token that is used.
func TestFlowOfDevice(t *testing.T) {
	w := example(t)
	w.tick(1000)
	draws := deviceDraws(3)
	a := asked{1, codeOf(draws[:32]), userOf(draws[32:])}
	w.grants(post("/device_authorization", "client_id=tv&scope=read"), given("https://w", draws), draws...)
	w.refuses(pollDevice(a.code), 400, "authorization_pending")
	w.tick(1005)
	w.refuses(pollDevice(a.code), 400, "authorization_pending")
	w.grants(get("/verify?user_code="+strings.ToLower(a.user), user("ann")), seen("tv", "read", ""))
	w.decided("ann", "user_code="+strings.ToLower(a.user), "approve")
	w.tick(1009)
	w.refuses(pollDevice(a.code), 400, "slow_down")
	w.tick(1019)
	token := signed(config().Keys[0], claims("https://w", "ann", "tv", "read", "1", 1019, 4619))
	w.grants(pollDevice(a.code), bearer(token, "read"))
	w.refuses(pollDevice(a.code), 400, "invalid_grant")
	w.grants(post("/introspect", "token="+token, box()), `{"active":true,"scope":"read","client_id":"tv","sub":"ann","iss":"https://w","jti":"1","iat":1019,"exp":4619,"token_type":"Bearer"}`)
	w.tick(4619)
	w.grants(post("/introspect", "token="+token, box()), inactive)
}

// A till's way that polls, and a box's that is told.
func TestFlowOfCiba(t *testing.T) {
	w := begun(t)
	for _, c := range []struct{ who, id, form, message string }{{till(), "till", "", "42"}, {box(), "box", tok, "43"}} {
		draws := authDraws(w.next())
		n := uint64(w.n)
		w.grants(post("/bc-authorize", forAnn+c.form+"&requested_expiry=90&binding_message="+c.message, c.who), pending(draws, "90"), draws...)
		code := codeOf(draws)
		w.refuses(pollCiba(c.who, code), 400, "authorization_pending")
		w.grants(get("/waiting", user("ann")), waits(wait(n, c.id, "openid pay", c.message)))
		w.refuses(post("/decide", "decision=approve&binding_message=41&request="+decimal(n), user("ann")), 400, "invalid_binding_message")
		w.decided("ann", "binding_message="+c.message+"&request="+decimal(n), "approve")
		w.grants(get("/waiting", user("ann")), waits())
		for _, p := range w.e.Pings() {
			isSent(t, w.f, p, pinged("b", "/cb", "tok", `{"auth_req_id":"`+code+`"}`))
			if err := w.e.Pinged(p.Number, api.OutcomeDone); err != api.OK || p.Number != n {
				t.Fatal(p, err)
			}
		}
		now := w.e.Now() + 5
		w.tick(now)
		w.grants(pollCiba(c.who, code), bearer(signed(config().Keys[0], claims("https://w", "ann", c.id, "openid pay", decimal(n), now, now+3600)), "openid pay"))
		w.refuses(pollCiba(c.who, code), 400, "invalid_grant")
	}
}

// A request that is denied, and one that nobody decides in time, of which the box is told too.
func TestFlowRefused(t *testing.T) {
	w := begun(t)
	a, b := w.told(), w.told()
	w.decided("ann", byNumber(a, "7"), "deny")
	w.refuses(pollCiba(box(), a.code), 400, "access_denied")
	w.tick(120)
	w.refuses(pollCiba(box(), b.code), 400, "expired_token")
	l := w.e.Pings()
	if len(l) != 2 || l[0].Number != a.number || l[1].Number != b.number {
		t.Fatal(l)
	}
	for i, x := range []asked{a, b} {
		isSent(t, w.f, l[i], pinged("b", "/cb", "tok", `{"auth_req_id":"`+x.code+`"}`))
	}
}
