package endpoint_test

import (
	"slices"
	"strings"
	"testing"

	"wicket/api"
)

const tok = "&client_notification_token=tok"

func pending(draws []byte, life string) string {
	return `{"auth_req_id":"` + codeOf(draws) + `","expires_in":` + life + `,"interval":5}`
}

// P16.4: what a client is given that asks for somebody, and the row that stands for it.
func TestCiba(t *testing.T) {
	w := begun(t)
	w.tick(1000)
	for i, c := range []struct {
		form, who string
		life      string
		want      api.Pending
	}{
		{"scope=openid&login_hint=ann", till(), "120", api.Pending{Flow: api.FlowPoll, Client: "till", Scope: "openid", Subject: "ann", Expiry: 1120}},
		{"login_hint=bob&scope=pay+openid&binding_message=4+2&requested_expiry=60", till(), "60", api.Pending{Flow: api.FlowPoll, Client: "till", Scope: "openid pay", Subject: "bob", Message: "4 2", Expiry: 1060}},
		{"login_hint=ann", till(), "120", api.Pending{Flow: api.FlowPoll, Client: "till", Scope: "more openid pay", Subject: "ann", Expiry: 1120}},
		{"login_hint=ann" + tok, till(), "120", api.Pending{Flow: api.FlowPoll, Client: "till", Scope: "more openid pay", Subject: "ann", Expiry: 1120}},
		{"login_hint=ann" + tok, box(), "120", api.Pending{Flow: api.FlowPing, Client: "box", Scope: "openid pay", Subject: "ann", Notify: "tok", Expiry: 1120}},
		{"client_id=box&client_secret=s&login_hint=a&requested_expiry=3600&binding_message=m" + tok, "", "3600", api.Pending{Flow: api.FlowPing, Client: "box", Scope: "openid pay", Subject: "a", Message: "m", Notify: "tok", Expiry: 4600}},
		{"login_hint=ann&scope=openid", both(), "120", api.Pending{Flow: api.FlowPoll, Client: "both", Scope: "openid", Subject: "ann", Expiry: 1120}},
	} {
		draws := authDraws(i)
		w.grants(post("/bc-authorize", c.form, c.who), pending(draws, c.life), draws...)
		p := w.row(uint64(i + 1))
		p.Handle = ""
		c.want.Number, c.want.Begun, c.want.Interval, c.want.Status = uint64(i+1), 1000, 5, api.StatusWaiting
		if c.want.Notify != "" {
			c.want.Notify += " " + codeOf(draws)
		}
		if p != c.want {
			t.Errorf("%q: %+v, not %+v", c.form, p, c.want)
		}
	}
}

// P16.4: a client that may not, or that cannot show who it is, is refused ahead of what it asks for.
func TestCibaGrant(t *testing.T) {
	w := begun(t)
	for _, form := range []string{"a=1", forAnn, "scope=none", "scope=a&scope=a", "scope=openid&login_hint=ann"} {
		w.refuses(post("/bc-authorize", form+"&client_id=tv"), 400, "unauthorized_client")
		w.refuses(post("/bc-authorize", form+"&client_id=open"), 400, "unauthorized_client")
		w.refuses(post("/bc-authorize", form, set()), 400, "unauthorized_client")
	}
}

// P16.4: a scope that the client may not ask for, or without openid, is refused ahead of the rest.
func TestCibaScope(t *testing.T) {
	w := begun(t)
	for _, s := range []string{"pay", "more+pay", "none", "openid+none", "OPENID", "openid2", "penid", "openid++pay", "+openid", "%22", long(300)} {
		for _, rest := range []string{"", "&login_hint=ann", "&login_hint_token=x", "&binding_message=%00", "&requested_expiry=x"} {
			w.refuses(post("/bc-authorize", "scope="+s+rest, till()), 400, "invalid_scope")
		}
	}
	w.bad(post("/bc-authorize", "scope=pay&scope=pay&login_hint=ann", till()))
	w.bad(post("/bc-authorize", "scope=&scope=&login_hint=ann", till()))
	other := on(t, with(clients("id=a&secret=s&grants=ciba&scope=pay\nid=b&secret=s&grants=ciba\nid=c&secret=s&grants=ciba&scope=openid2+xopenid")), most)
	for _, id := range []string{"a", "b", "c"} {
		other.refuses(post("/bc-authorize", "login_hint=ann", basic(id, "s")), 400, "invalid_scope")
	}
}

// P16.4: who is asked is told by a login_hint, and by nothing else.
func TestCibaHint(t *testing.T) {
	w := begun(t)
	for _, form := range []string{
		"a=1", "login_hint=", "login_hint_token=x", "login_hint=ann&login_hint_token=x", "login_hint=ann&id_token_hint=x", "id_token_hint=x", "login_hint_token=x&id_token_hint=x&login_hint=ann",
		"login_hint=ann&login_hint=ann", "login_hint=ann&login_hint_token=&login_hint_token=", "login_hint=ann&id_token_hint=&id_token_hint=", "login_hint=&login_hint=",
		"login_hint=" + long(65) + "&login_hint_token=x", "login_hint=%00&id_token_hint=x",
	} {
		w.bad(post("/bc-authorize", form, till()))
		w.bad(post("/bc-authorize", form+"&binding_message=%00&requested_expiry=x", till()))
		w.bad(post("/bc-authorize", form, box()))
	}
	w.ciba(till(), "login_hint=ann&login_hint_token=&id_token_hint=")
}

// P16.4: who is asked has a name of at most MaxName bytes, each from 32 to 126.
func TestCibaUnknown(t *testing.T) {
	w := begun(t)
	for _, n := range []int{1, 63, api.MaxName} {
		w.ciba(till(), "login_hint="+long(n))
		if p := w.row(uint64(w.n)); p.Subject != long(n) {
			t.Errorf("%q", p.Subject)
		}
	}
	for _, n := range []int{api.MaxName + 1, 300} {
		w.refuses(post("/bc-authorize", "login_hint="+long(n), till()), 400, "unknown_user_id")
	}
	for b := range 256 {
		name := "a" + string([]byte{byte(b)}) + "b"
		s := post("/bc-authorize", "login_hint="+escaped(name)+"&requested_expiry=x", till())
		if 32 <= b && b <= 126 {
			w.bad(s)
		} else {
			w.refuses(s, 400, "unknown_user_id")
		}
	}
	w.ciba(till(), "login_hint=%20~")
	if p := w.row(uint64(w.n)); p.Subject != " ~" {
		t.Errorf("%q", p.Subject)
	}
	for _, s := range []string{"%1fx", "x%1f", "%7f", "x%7f"} {
		w.refuses(post("/bc-authorize", "binding_message=%00&login_hint="+s, till()), 400, "unknown_user_id")
	}
}

// P16.4: a binding_message has at most MaxMessage bytes, each from 32 to 126.
func TestCibaMessage(t *testing.T) {
	w := begun(t)
	for _, n := range []int{0, 1, api.MaxMessage} {
		w.ciba(till(), "login_hint=ann&binding_message="+long(n))
		if p := w.row(uint64(w.n)); p.Message != long(n) {
			t.Errorf("%q", p.Message)
		}
	}
	for _, s := range []string{long(api.MaxMessage + 1), long(5000), "%1fx", "x%7f", "%00", "%ff", "x%0a"} {
		w.refuses(post("/bc-authorize", "login_hint=ann&binding_message="+s, till()), 400, "invalid_binding_message")
		w.refuses(post("/bc-authorize", "login_hint=ann&requested_expiry=0&binding_message="+s, box()), 400, "invalid_binding_message")
	}
	for b := range 256 {
		s := post("/bc-authorize", "login_hint=ann&requested_expiry=x&binding_message="+escaped("a"+string([]byte{byte(b)})), till())
		if 32 <= b && b <= 126 {
			w.bad(s)
		} else {
			w.refuses(s, 400, "invalid_binding_message")
		}
	}
	w.bad(post("/bc-authorize", "login_hint=ann&binding_message=1&binding_message=1", till()))
	w.bad(post("/bc-authorize", "login_hint=ann&binding_message=&binding_message=", till()))
	w.ciba(till(), "login_hint=ann&binding_message=+~")
	if p := w.row(uint64(w.n)); p.Message != " ~" {
		t.Errorf("%q", p.Message)
	}
}

// P16.4: a requested_expiry is a number from 1 to MaxLife, in its one way.
func TestCibaLife(t *testing.T) {
	w := begun(t)
	for _, s := range []string{"1", "2", "9", "10", "119", "120", "121", "3599", "3600"} {
		draws := authDraws(w.next())
		w.grants(post("/bc-authorize", "login_hint=ann&requested_expiry="+s, till()), pending(draws, s), draws...)
	}
	draws := authDraws(w.next())
	w.grants(post("/bc-authorize", "login_hint=ann&requested_expiry=", till()), pending(draws, "120"), draws...)
	for _, s := range []string{"0", "00", "3601", "3600.", "36000", "01", "0120", "%2B1", "%2B120", "-1", "-0", "1.0", "1e2", "0x10", "+1", "1+", "%201", "a", "1a", "18446744073709551615", "18446744073709551616", "18446744073709551617", "99999999999999999999999", "\u00b2", "1%00", "1_0"} {
		w.bad(post("/bc-authorize", "login_hint=ann&requested_expiry="+urlSafe(s), till()))
		w.bad(post("/bc-authorize", "login_hint=ann&requested_expiry="+urlSafe(s)+tok, box()))
	}
	w.bad(post("/bc-authorize", "login_hint=ann&requested_expiry=60&requested_expiry=60", till()))
	w.bad(post("/bc-authorize", "login_hint=ann&requested_expiry=&requested_expiry=", till()))
}

// urlSafe is s with what no form has written as a form has it.
func urlSafe(s string) string {
	out := ""
	for i := range len(s) {
		if s[i] > 126 {
			out += escaped(s[i : i+1])
			continue
		}
		out += s[i : i+1]
	}
	return out
}

// P16.4: a client that is told by pings says with what: 1 to 128 bytes, each from 33 to 126.
func TestCibaNotify(t *testing.T) {
	w := begun(t)
	for _, n := range []int{1, 127, 128} {
		a := w.ciba(box(), "login_hint=ann&client_notification_token="+long(n))
		if p := w.row(a.number); p.Notify != long(n)+" "+a.code {
			t.Errorf("%q", p.Notify)
		}
	}
	for _, s := range []string{"", "client_notification_token=", "client_notification_token=" + long(129), "client_notification_token=" + long(4000), "client_notification_token=a&client_notification_token=a"} {
		w.bad(post("/bc-authorize", "login_hint=ann&"+s, box()))
	}
	for b := range 256 {
		s := post("/bc-authorize", "login_hint=ann&client_notification_token="+escaped("a"+string([]byte{byte(b)})+"b"), box())
		if 33 <= b && b <= 126 {
			w.gets(s, refusal(500, "server_error"))
		} else {
			w.bad(s)
		}
	}
	w.ciba(box(), "login_hint=ann&client_notification_token=!~%22%5c")
	if p := w.row(uint64(w.n)); !strings.HasPrefix(p.Notify, "!~\"\\ ") {
		t.Errorf("%q", p.Notify)
	}
}

// P16.4: another client is not asked for it, and may have it twice, or as it may not be.
func TestCibaNoNotify(t *testing.T) {
	w := begun(t)
	for _, who := range []string{till(), both()} {
		w.ciba(who, "login_hint=ann&client_notification_token=a&client_notification_token=b")
		w.ciba(who, "login_hint=ann&client_notification_token=%00"+long(500))
		if p := w.row(uint64(w.n)); p.Notify != "" || p.Flow != api.FlowPoll {
			t.Errorf("%+v", p)
		}
	}
}

// P16.4: the order in which refusals are told.
func TestCibaOrder(t *testing.T) {
	w := begun(t)
	wrong := []string{"scope=none", "login_hint_token=x", "login_hint=%00", "binding_message=%00", "requested_expiry=0", "client_notification_token=%00"}
	right := []string{"scope=openid", "", "login_hint=ann", "binding_message=1", "requested_expiry=9", "client_notification_token=t"}
	whys := []string{"invalid_scope", "invalid_request", "unknown_user_id", "invalid_binding_message", "invalid_request", "invalid_request"}
	for i := range wrong {
		w.refuses(post("/bc-authorize", strings.Join(slices.Concat(right[:i], wrong[i:]), "&"), box()), 400, whys[i])
		w.refuses(post("/bc-authorize", strings.Join(slices.Concat(right[:i], wrong[i:i+1], right[i+1:]), "&"), box()), 400, whys[i])
	}
	w.gets(post("/bc-authorize", strings.Join(right, "&"), box()), refusal(500, "server_error"))
}

// P16.4: every error of the engine is the server's fault.
func TestCibaEngine(t *testing.T) {
	w := on(t, config(), 2)
	for _, s := range []string{post("/bc-authorize", forAnn, till()), post("/bc-authorize", forAnn+tok, box())} {
		n := w.next()
		w.gets(s, refusal(500, "server_error"))
		w.gets(s, refusal(500, "server_error"), authDraws(n)[:23]...)
		w.grants(s, pending(authDraws(n), "120"), authDraws(n)...)
		w.gets(s, refusal(500, "server_error"), slices.Repeat(authDraws(n), 9)...)
	}
	w.gets(post("/bc-authorize", forAnn, till()), refusal(500, "server_error"), authDraws(9)...)
	w.gets(post("/device_authorization", "client_id=tv"), refusal(500, "server_error"), deviceDraws(9)...)
}
