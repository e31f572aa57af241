package endpoint_test

import (
	"slices"
	"strings"
	"testing"

	"wicket/api"
)

// given is what a device is answered.
func given(issuer string, draws []byte) string {
	u := userOf(draws[32:])
	return `{"device_code":"` + codeOf(draws[:32]) + `","user_code":"` + u + `","verification_uri":"` + issuer + `/verify","verification_uri_complete":"` +
		issuer + `/verify?user_code=` + u + `","expires_in":600,"interval":5}`
}

// P16.3: what a device is given, and the row that stands for it.
func TestDevice(t *testing.T) {
	w := begun(t)
	w.tick(1000)
	draws := deviceDraws(77)
	w.grants(post("/device_authorization", "client_id=tv"), given("https://w", draws), draws...)
	p := w.row(1)
	p.Handle = ""
	want := api.Pending{Number: 1, Flow: api.FlowDevice, Client: "tv", Code: strings.ReplaceAll(userOf(draws[32:]), "-", ""), Scope: "read write", Begun: 1000, Expiry: 1600, Interval: 5, Status: api.StatusWaiting}
	if p != want || len(w.e.All()) != 1 {
		t.Errorf("%+v, not %+v", p, want)
	}
	draws = deviceDraws(78)
	w.grants(post("/device_authorization", "client_id=both&client_secret=x&scope=openid"), given("https://w", draws), draws...)
	draws = deviceDraws(79)
	w.grants(post("/device_authorization", "a=1", both()), given("https://w", draws), draws...)
	if p := w.row(3); p.Client != "both" || p.Scope != "openid" {
		t.Errorf("%+v", p)
	}
}

// P16.3: where the user is sent is told by the issuer, however long it is.
func TestDeviceIssuer(t *testing.T) {
	for _, s := range []string{"https://a.example/x", "https://" + long(api.MaxIssuer-8), "https://a?b#c"} {
		w := on(t, with(issuer(s)), most)
		draws := deviceDraws(5)
		w.grants(post("/device_authorization", "client_id=tv"), given(s, draws), draws...)
	}
}

// P16.3: a client that may not is refused, ahead of what it asks for.
func TestDeviceGrant(t *testing.T) {
	w := begun(t)
	for _, who := range []string{till(), box()} {
		for _, form := range []string{"a=1", "scope=pay", "scope=none", "scope=a&scope=a"} {
			w.refuses(post("/device_authorization", form, who), 400, "unauthorized_client")
		}
	}
}

// scoped asks as that client for that scope, and tells what was asked for.
func (w *world) scoped(form, want string) {
	w.t.Helper()
	w.serve(post("/device_authorization", form), deviceDraws(w.next())...)
	if p := w.row(uint64(w.n)); p.Scope != want {
		w.t.Fatalf("%q: %q, not %q", form, p.Scope, want)
	}
}

// P16.3: the scope: all of the client's, or those that are asked for.
func TestDeviceScope(t *testing.T) {
	w := begun(t)
	w.scoped("client_id=tv", "read write")
	w.scoped("client_id=tv&scope=", "read write")
	w.scoped("client_id=tv&scope=write", "write")
	w.scoped("scope=write+read%20write&client_id=tv", "read write")
	for _, s := range []string{"pay", "read+pay", "openid", "+read", "read+", "read++write", "%22", "READ", "rea", "read%00", "read%0awrite", long(300), strings.Repeat("read+", 60)} {
		w.refuses(post("/device_authorization", "client_id=tv&scope="+s), 400, "invalid_scope")
	}
	for _, s := range []string{"scope=read&scope=read", "scope=&scope=", "scope&scope=read", "scope=pay&scope=none"} {
		w.bad(post("/device_authorization", "client_id=tv&"+s))
	}
}

// P16.3: of a client without scopes the scope is empty.
func TestDeviceNoScope(t *testing.T) {
	w := on(t, with(clients("id=tv&grants=device")), most)
	w.scoped("client_id=tv", "")
	w.refuses(post("/device_authorization", "client_id=tv&scope=read"), 400, "invalid_scope")
}

// P16.3: other parameters say nothing, as often as they are there.
func TestDeviceOthers(t *testing.T) {
	w := begun(t)
	draws := deviceDraws(1)
	w.grants(post("/device_authorization", "client_id=tv&login_hint=a&login_hint=b&requested_expiry=x&binding_message=%ff&a=1&a=1"), given("https://w", draws), draws...)
	if p := w.row(1); p.Subject != "" || p.Message != "" || p.Notify != "" || p.Expiry != 600 {
		t.Errorf("%+v", p)
	}
}

// P16.3: every error of the engine is the server's fault: a table that is full, draws that are too few or meet others.
func TestDeviceEngine(t *testing.T) {
	w := on(t, config(), 2)
	ask := post("/device_authorization", "client_id=tv")
	w.gets(ask, refusal(500, "server_error"))
	w.gets(ask, refusal(500, "server_error"), deviceDraws(1)[:39]...)
	w.grants(ask, given("https://w", deviceDraws(1)), deviceDraws(1)...)
	w.gets(ask, refusal(500, "server_error"), slices.Repeat(deviceDraws(1)[:32], 9)...)
	w.gets(ask, refusal(500, "server_error"), slices.Concat(deviceDraws(2)[:32], slices.Repeat(deviceDraws(1)[32:], 9))...)
	w.grants(ask, given("https://w", deviceDraws(2)), deviceDraws(2)...)
	w.gets(ask, refusal(500, "server_error"), deviceDraws(3)...)
	w.tick(1199)
	w.gets(ask, refusal(500, "server_error"), deviceDraws(3)...)
	w.tick(1200)
	w.grants(ask, given("https://w", deviceDraws(3)), deviceDraws(3)...)
}

// P16.3: draws that meet others are drawn anew out of what the request has.
func TestDeviceRetry(t *testing.T) {
	w := begun(t)
	a, b := deviceDraws(1), deviceDraws(2)
	ask := post("/device_authorization", "client_id=tv")
	w.grants(ask, given("https://w", a), a...)
	w.grants(ask, given("https://w", b), slices.Concat(a[:32], b[:32], a[32:], a[32:], b[32:], a)...)
}
