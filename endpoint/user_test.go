package endpoint_test

import (
	"strings"
	"testing"

	"wicket/api"
)

func seen(client, scope, message string) string {
	return `{"client_id":"` + client + `","scope":"` + scope + `","binding_message":"` + message + `"}`
}

// P16.8: what a user is shown whose code is there, however it is typed.
func TestVerify(t *testing.T) {
	w := begun(t)
	w.device()
	a := w.device()
	tv := seen("tv", "read write", "")
	for i, s := range []string{a.user, strings.ToLower(a.user), strings.ReplaceAll(a.user, "-", ""), "+" + strings.ReplaceAll(a.user, "-", "%20_./") + "+"} {
		w.grants(get("/verify?user_code="+s, user("u"+decimal(uint64(i)))), tv)
		w.grants(get("/verify?a=1&user_code="+s+"&a=1", user("u"+decimal(uint64(i)))), tv)
	}
	other := on(t, with(clients("id=%22%5c&grants=device&scope=a")), most)
	other.serve(post("/device_authorization", "client_id=%22%5c"), deviceDraws(1)...)
	other.grants(get("/verify?user_code="+userOf(deviceDraws(1)[32:]), user("ann")), seen(`\"\\`, "a", ""))
}

// P16.8: there must be a user_code, once; nothing is tried otherwise.
func TestVerifyCode(t *testing.T) {
	w := begun(t)
	a := w.device()
	for range 3 {
		for _, s := range []string{"", "?", "?user_code", "?user_code=", "?code=" + a.user, "?user_code=a&user_code=a", "?user_code=&user_code=", "?user_code=" + a.user + "&user_code"} {
			w.bad(get("/verify"+s, user("ann")))
		}
	}
	for range api.GuessTries {
		w.grants(get("/verify?user_code="+a.user, user("ann")), seen("tv", "read write", ""))
	}
	w.refuses(get("/verify?user_code="+a.user, user("ann")), 429, "too_many_attempts")
	w.bad(get("/verify", user("ann")))
}

// P16.8: a code that is nobody's, or not a waiting request's.
func TestVerifyUnknown(t *testing.T) {
	w := begun(t)
	a := w.device()
	for i, s := range []string{"x", "BCDFGHJK", "BCDFGHJA", a.user[1:], a.user + "B", a.code, long(64), long(900), "%ff", "%00"} {
		w.refuses(get("/verify?user_code="+s, user("u"+decimal(uint64(i)))), 404, "unknown_user_code")
	}
	w.decided("bob", "user_code="+a.user, "deny")
	w.refuses(get("/verify?user_code="+a.user, user("ann")), 404, "unknown_user_code")
	b := w.device()
	w.decided("bob", "user_code="+b.user, "approve")
	w.refuses(get("/verify?user_code="+b.user, user("ann")), 404, "unknown_user_code")
	c := w.device()
	w.tick(599)
	w.grants(get("/verify?user_code="+c.user, user("ann")), seen("tv", "read write", ""))
	w.tick(600)
	w.refuses(get("/verify?user_code="+c.user, user("ann")), 404, "unknown_user_code")
}

// P16.8: so many attempts in a window, of each subject for itself, at either route.
func TestVerifySpent(t *testing.T) {
	w := begun(t)
	w.tick(100)
	a := w.device()
	w.refuses(get("/verify?user_code=x", user("ann")), 404, "unknown_user_code")
	w.grants(get("/verify?user_code="+a.user, user("ann")), seen("tv", "read write", ""))
	w.refuses(post("/decide", "decision=deny&user_code=x", user("ann")), 404, "unknown_user_code")
	w.refuses(post("/decide", "decision=deny&binding_message=x&user_code="+a.user, user("ann")), 400, "invalid_binding_message")
	w.refuses(get("/verify?user_code=x", user("ann")), 404, "unknown_user_code")
	w.tick(159)
	for _, s := range []string{get("/verify?user_code="+a.user, user("ann")), get("/verify?user_code=x", user("ann")), post("/decide", "decision=approve&user_code="+a.user, user("ann")), post("/decide", "decision=approve&user_code=x", user("ann"))} {
		w.refuses(s, 429, "too_many_attempts")
	}
	w.grants(get("/verify?user_code="+a.user, user("bob")), seen("tv", "read write", ""))
	w.tick(160)
	w.grants(get("/verify?user_code="+a.user, user("ann")), seen("tv", "read write", ""))
}

// waits is what waits for a subject.
func waits(items ...string) string { return `{"requests":[` + strings.Join(items, ",") + `]}` }

func wait(number uint64, client, scope, message string) string {
	return `{"request":` + decimal(number) + `,` + seen(client, scope, message)[1:]
}

// P16.9: what waits for the subject by name, and as long as it waits.
func TestWaiting(t *testing.T) {
	w := begun(t)
	ann := get("/waiting", user("ann"))
	w.grants(ann, waits())
	w.device()
	a, b := w.polled(), w.told()
	w.ciba(till(), "login_hint=bob&binding_message=%22%5c")
	w.grants(ann, waits(wait(2, "till", "openid pay", "42"), wait(3, "box", "openid pay", "7")))
	w.grants(get("/waiting?a=1&a=1", user("ann")), waits(wait(2, "till", "openid pay", "42"), wait(3, "box", "openid pay", "7")))
	w.grants(get("/waiting", user("bob")), waits(wait(4, "till", "more openid pay", `\"\\`)))
	w.decided("ann", byNumber(a, "42"), "approve")
	w.grants(ann, waits(wait(3, "box", "openid pay", "7")))
	w.decided("ann", byNumber(b, "7"), "deny")
	w.grants(ann, waits())
	w.tick(120)
	w.grants(get("/waiting", user("bob")), waits())
}

// P16.9: no more than MaxWaiting are shown, the first ones.
func TestWaitingMany(t *testing.T) {
	w := begun(t)
	var items []string
	for i := range api.MaxWaiting + 3 {
		a := w.polled()
		if i < api.MaxWaiting {
			items = append(items, wait(a.number, "till", "openid pay", "42"))
		}
		w.grants(get("/waiting", user("ann")), waits(items...))
	}
	w.decided("ann", "request=3&binding_message=42", "deny")
	items = append(append(items[:2:2], items[3:]...), wait(api.MaxWaiting+1, "till", "openid pay", "42"))
	w.grants(get("/waiting", user("ann")), waits(items...))
}

// P16.9: a number is told as it is, however great.
func TestWaitingNumber(t *testing.T) {
	w := begun(t)
	if err, _ := w.e.Do(api.Change{Kind: api.ChangeMark, Mark: api.MarkNumber, Value: last - 1}); err != api.OK {
		t.Fatal(err)
	}
	w.serve(post("/bc-authorize", forAnn, till()), authDraws(1)...)
	w.grants(get("/waiting", user("ann")), waits(wait(last, "till", "openid pay", "")))
	w.decided("ann", "request=18446744073709551615", "approve")
	if p := w.row(last); p.Status != api.StatusApproved {
		t.Errorf("%+v", p)
	}
}

// P16.10: a decision by user code, and one by number; who decides, and what the row is then.
func TestDecide(t *testing.T) {
	w := begun(t)
	for _, c := range []struct {
		how    string
		status int
	}{{"approve", api.StatusApproved}, {"deny", api.StatusDenied}} {
		a, b, d := w.device(), w.polled(), w.told()
		w.decided("bob", "user_code="+strings.ToLower(a.user), c.how)
		w.decided("ann", byNumber(b, "42"), c.how)
		w.decided("ann", "binding_message=%37&request="+escaped(decimal(d.number)), c.how)
		for _, x := range []asked{a, b, d} {
			if p := w.row(x.number); p.Status != c.status || c.how == "approve" && p.Subject != map[bool]string{true: "bob", false: "ann"}[x.user != ""] {
				t.Errorf("%s: %+v", c.how, p)
			}
		}
		if p := w.row(d.number); p.Ping != api.PingOwed {
			t.Errorf("%+v", p)
		}
	}
}

// P16.10: a decision is one of two words.
func TestDecision(t *testing.T) {
	w := begun(t)
	a := w.device()
	for range 3 {
		for _, s := range []string{"", "decision=", "decision=yes", "decision=Approve", "decision=approved", "decision=den", "decision=approve+", "decision=approve&decision=approve", "decision=deny&decision=approve", "decision=&decision=", "decide=deny"} {
			w.bad(post("/decide", s+"&user_code="+a.user, user("ann")))
			w.bad(post("/decide", s+"&request=1", user("ann")))
		}
	}
	w.decided("ann", "user_code="+a.user, "deny")
}

// P16.10: a request is told by its user code or by its number, and not by both; no attempt is used otherwise.
func TestDecideWhich(t *testing.T) {
	w := begun(t)
	a, b := w.device(), w.polled()
	for range 3 {
		for _, s := range []string{
			"", "user_code=", "request=", "user_code=&request=", "user_code=" + a.user + "&request=2", "user_code=x&request=x", "user_code=x&user_code=x", "request=2&request=2", "user_code=" + a.user + "&user_code=" + a.user,
			"user_code=" + a.user + "&request=&request=", "user_code=&user_code=&request=2", "user_code=" + a.user + "&binding_message=&binding_message=", "request=2&binding_message=42&binding_message=42",
		} {
			w.bad(post("/decide", "decision=approve&"+s, user("ann")))
		}
	}
	w.decided("ann", "request=&user_code="+a.user, "deny")
	w.decided("ann", "user_code=&request=2&binding_message=42", "approve")
	if w.row(a.number).Status != api.StatusDenied || w.row(b.number).Status != api.StatusApproved {
		t.Errorf("%+v", w.e.All())
	}
}

// P16.10: a number of a request is one from 1 to 2^64 - 1, in its one way.
func TestDecideNumber(t *testing.T) {
	w := begun(t)
	w.polled()
	for _, s := range []string{"0", "00", "01", "+1", "%2B1", "-1", "1.0", "1e0", "0x1", "x", "1x", "%201", "1%20", "18446744073709551616", "18446744073709551617", "28446744073709551615", "99999999999999999999999999", "1%00", long(5000)} {
		for range 2 {
			w.bad(post("/decide", "decision=approve&binding_message=42&request="+s, user("ann")))
		}
	}
	for _, s := range []string{"2", "9", "10", "18446744073709551614", "18446744073709551615"} {
		w.refuses(post("/decide", "decision=approve&binding_message=42&request="+s, user("ann")), 404, "unknown_request")
	}
	w.decided("ann", "request=1&binding_message=42", "approve")
}

// P16.10: each error of the engine, by number: no request of this subject's, one that is over, one that is decided, another message.
func TestDecideRefused(t *testing.T) {
	w := begun(t)
	a, b, c := w.device(), w.polled(), w.told()
	decide := func(name, form string) string { return post("/decide", "decision=approve&"+form, user(name)) }
	w.refuses(decide("ann", "request="+decimal(a.number)), 404, "unknown_request")
	w.refuses(decide("bob", byNumber(b, "42")), 404, "unknown_request")
	w.refuses(decide("ann", "request=4&binding_message=42"), 404, "unknown_request")
	for _, s := range []string{"", "&binding_message=", "&binding_message=4", "&binding_message=423", "&binding_message=42+", "&binding_message=%ff", "&binding_message=" + long(5000)} {
		w.refuses(decide("ann", "request="+decimal(b.number)+s), 400, "invalid_binding_message")
	}
	w.decided("ann", byNumber(b, "42"), "deny")
	w.refuses(decide("ann", byNumber(b, "42")), 400, "already_decided")
	w.refuses(decide("ann", byNumber(b, "other")), 400, "already_decided")
	w.decided("ann", byNumber(c, "7"), "approve")
	w.refuses(decide("ann", byNumber(c, "7")), 400, "already_decided")
	w.serve(pollCiba(box(), c.code))
	w.refuses(decide("ann", byNumber(c, "7")), 400, "already_decided")
	d := w.polled()
	w.tick(119)
	w.refuses(decide("ann", byNumber(d, "x")), 400, "invalid_binding_message")
	w.tick(120)
	w.refuses(decide("ann", byNumber(d, "42")), 400, "expired_request")
	w.refuses(decide("ann", byNumber(d, "x")), 400, "expired_request")
	w.refuses(decide("ann", byNumber(b, "42")), 400, "already_decided")
	w.tick(720)
	w.refuses(decide("ann", byNumber(d, "42")), 404, "unknown_request")
}

// P16.10: each error of the engine, by user code.
func TestDecideTyped(t *testing.T) {
	w := begun(t)
	a := w.device()
	decide := func(form string) string { return post("/decide", "decision=approve&"+form, user("ann")) }
	w.refuses(decide("user_code=x"), 404, "unknown_user_code")
	w.refuses(decide("user_code="+long(65)), 404, "unknown_user_code")
	w.refuses(decide("user_code="+a.user+"&binding_message=x"), 400, "invalid_binding_message")
	w.grants(decide("user_code="+a.user+"&binding_message="), `{"decided":"approve"}`)
	w.refuses(decide("user_code="+a.user), 404, "unknown_user_code")
	w.refuses(decide("user_code="+a.user), 429, "too_many_attempts")
	w.refuses(decide("user_code="+a.user+"&binding_message=x"), 429, "too_many_attempts")
	w.refuses(decide("request=1"), 404, "unknown_request")
}
