package endpoint_test

import (
	"strings"
	"testing"

	"wicket/api"
	"wicket/endpoint"
	"wicket/http"
)

// pinged is the request that is sent for a ping of the client with that url.
func pinged(host, target, notify, body string) string {
	if host != "" {
		host = " " + host
	}
	return "POST " + target + " HTTP/1.1\r\nhost:" + host + "\r\nauthorization: Bearer " + notify + "\r\ncontent-type: application/json\r\ncontent-length: " + decimal(uint64(len(body))) + "\r\n\r\n" + body
}

func isSent(t *testing.T, f *endpoint.Front, p api.Ping, want string) {
	t.Helper()
	if got := f.Notify(p); got != want {
		t.Errorf("Notify(%+v):\n%q, not\n%q", p, got, want)
	}
}

// P16.11: where the url is cut, and what is sent there.
func TestNotify(t *testing.T) {
	for _, c := range []struct{ url, host, target string }{
		{"https://b/cb", "b", "/cb"},
		{"https://b", "b", "/"},
		{"https://b/", "b", "/"},
		{"https://b.example:8443/a/b?c=d/e#f", "b.example:8443", "/a/b?c=d/e#f"},
		{"https://b?c", "b?c", "/"},
		{"https://b?c/d", "b?c", "/d"},
		{"https://b//c//", "b", "//c//"},
		{"https:////", "", "//"},
		{"https:///c", "", "/c"},
		{"https://https://b/c", "https:", "//b/c"},
		{"https://u:p@b/~!\"'", "u:p@b", "/~!\"'"},
		{"https://" + long(248), long(248), "/"},
		{"https://b/" + long(246), "b", "/" + long(246)},
	} {
		text, err := printed([]api.Client{{Id: "box", Secret: "s", Grants: api.GrantCiba, Ping: true, Url: c.url}})
		if err != api.OK {
			t.Fatalf("%q: %d", c.url, err)
		}
		f := frontOf(t, with(clients(text)))
		isSent(t, f, api.Ping{Number: 1, Client: "box", Notify: "tok", Code: "C"}, pinged(c.host, c.target, "tok", `{"auth_req_id":"C"}`))
	}
}

// P16.11: the number and the tries say nothing; the texts stand as they are.
func TestNotifyTexts(t *testing.T) {
	f := frontOf(t, config())
	for _, p := range []api.Ping{
		{Client: "box", Notify: "t", Code: "C"}, {Number: last, Client: "box", Notify: "t", Code: "C", Tries: -9}, {Client: "box", Notify: "t o k", Code: "C"}, {Client: "box", Notify: "\"\\~", Code: "C"},
		{Client: "box", Notify: long(4096 - 7), Code: "C"}, {Client: "box", Notify: "t", Code: ""},
	} {
		isSent(t, f, p, pinged("b", "/cb", p.Notify, `{"auth_req_id":"`+p.Code+`"}`))
	}
	isSent(t, f, api.Ping{Client: "box", Notify: "t", Code: "\"\\é\n\x7f"}, pinged("b", "/cb", "t", `{"auth_req_id":"\"\\\u00e9\n\u007f"}`))
	isSent(t, f, api.Ping{Client: "box", Notify: "t", Code: long(api.MaxJson - 18)}, pinged("b", "/cb", "t", `{"auth_req_id":"`+long(api.MaxJson-18)+`"}`))
}

// P16.11: no text, where nothing can be sent.
func TestNotifyNone(t *testing.T) {
	f := frontOf(t, config())
	for _, p := range []api.Ping{
		{}, {Notify: "t", Code: "C"}, {Client: "no", Notify: "t", Code: "C"}, {Client: "BOX", Notify: "t", Code: "C"}, {Client: "box ", Notify: "t", Code: "C"},
		{Client: "tv", Notify: "t", Code: "C"}, {Client: "till", Notify: "t", Code: "C"}, {Client: "both", Notify: "t", Code: "C"},
		{Client: "box", Notify: "", Code: "C"}, {Client: "box", Notify: "t ", Code: "C"}, {Client: "box", Notify: "t\x1f", Code: "C"}, {Client: "box", Notify: "t\r\nx: y", Code: "C"}, {Client: "box", Notify: "\x7f", Code: "C"},
		{Client: "box", Notify: long(4096 - 6), Code: "C"}, {Client: "box", Notify: "t", Code: "\xff"}, {Client: "box", Notify: "t", Code: long(api.MaxJson - 17)}, {Client: "box", Notify: "t", Code: long(1 << 20)},
	} {
		isSent(t, f, p, "")
	}
}

// P16.11: what is sent for the pings of an engine can be read.
func TestNotifyOfEngine(t *testing.T) {
	w := begun(t)
	a := w.ciba(box(), forAnn+"&client_notification_token=!~%22%5c")
	w.decided("ann", "request="+decimal(a.number), "deny")
	l := w.e.Pings()
	if len(l) != 1 {
		t.Fatal(l)
	}
	isSent(t, w.f, l[0], pinged("b", "/cb", `!~"\`, `{"auth_req_id":"`+a.code+`"}`))
	q, err, _ := http.ParseRequest(w.f.Notify(l[0]))
	if err != api.OK || q.Method != "POST" || q.Target != "/cb" || !strings.Contains(q.Body, a.code) {
		t.Errorf("%+v, %d", q, err)
	}
}

// P16.12: a nil Front has no text.
func TestNil(t *testing.T) {
	var f *endpoint.Front
	w := begun(t)
	for _, s := range []string{"", "x", get("/"), get("/waiting", user("ann")), post("/device_authorization", "client_id=tv")} {
		if got := f.Serve(w.e, s, deviceDraws(1)); got != "" {
			t.Errorf("%q", got)
		}
		if got := f.Serve(nil, s, nil); got != "" {
			t.Errorf("%q", got)
		}
	}
	if len(w.e.All()) != 0 {
		t.Error(w.e.All())
	}
	isSent(t, f, api.Ping{Number: 1, Client: "box", Notify: "tok", Code: "C"}, "")
	isSent(t, f, api.Ping{}, "")
}
