package endpoint_test

import (
	"strings"
	"testing"

	"wicket/api"
	"wicket/disk"
	"wicket/grant"
	"wicket/http"
)

// A route, and what comes of a request that says nothing more than that it goes there.
type way struct {
	path, method, allow string
	bare                func(w *world, raw string)
}

func ways() []way {
	unknown := func(w *world, raw string) { w.refuses(raw, 401, "invalid_client") }
	login := func(w *world, raw string) { w.refuses(raw, 401, "login_required") }
	return []way{
		{"/device_authorization", "POST", toPost, unknown},
		{"/bc-authorize", "POST", toPost, unknown},
		{"/token", "POST", toPost, unknown},
		{"/introspect", "POST", toPost, unknown},
		{"/.well-known/oauth-authorization-server", "GET", allowGet, func(w *world, raw string) { w.grants(raw, metadata("https://w")) }},
		{"/verify", "GET", allowGet, login},
		{"/waiting", "GET", allowGet, login},
		{"/decide", "POST", toPost, login},
	}
}

// P16.2: the first step: what is no request, and what is too long for one.
func TestMalformed(t *testing.T) {
	w := begun(t)
	for _, s := range []string{
		"", "x", "\r\n", "GET", "GET /token", "GET / HTTP/1.1\r\n", "get / HTTP/1.1\r\n\r\n", "GET / HTTP/1.0\r\n\r\n", "GET token HTTP/1.1\r\n\r\n",
		"GET / HTTP/1.1\r\nA b\r\n\r\n", "GET / HTTP/1.1\r\n\r\nx", "POST /token HTTP/1.1\r\ncontent-length: 2\r\n\r\nx",
		"POST /token HTTP/1.1\r\ntransfer-encoding: chunked\r\n\r\n", "GET /\xff HTTP/1.1\r\n\r\n", "\x00",
		"GET / HTTP/1.1\r\n" + strings.Repeat("a: b\r\n", 65) + "\r\n",
	} {
		w.bad(s)
	}
	for _, s := range []string{long(api.MaxHttp + 1), post("/token", long(api.MaxHttp)), raw("GET /", "", "a: "+long(api.MaxHttp)+"\r\n")} {
		w.refuses(s, 413, "invalid_request")
	}
	w.bad(long(api.MaxHttp))
}

// P16.2: a request of MaxHttp bytes is one; with a byte more it is too long, whatever it says.
func TestLongest(t *testing.T) {
	w := begun(t)
	for _, y := range ways() {
		if y.method != "GET" {
			continue
		}
		head := "GET " + y.path + " HTTP/1.1\r\ncontent-length: 32000\r\n\r\n"
		pad := "p: " + long(api.MaxHttp-len(head)-32000-len("p: \r\n")) + "\r\n"
		s := raw("GET "+y.path, long(32000), pad)
		if len(s) != api.MaxHttp {
			t.Fatal(len(s))
		}
		y.bare(w, s)
		w.refuses(s+"x", 413, "invalid_request")
	}
}

// P16.2: the second step: no other path is known, letter by letter.
func TestPath(t *testing.T) {
	w := begun(t)
	for _, y := range ways() {
		for _, path := range []string{y.path + "/", y.path + "x", "/" + y.path, "/x" + y.path, y.path[:len(y.path)-1], strings.ToUpper(y.path), y.path + ";", y.path + "%20", y.path + "#", "/%" + y.path[1:]} {
			for _, method := range []string{"GET", "POST", "X"} {
				w.refuses(raw(method+" "+path, ""), 404, "not_found")
			}
		}
	}
	for _, path := range []string{"/", "/?", "/?/token", "//", "/.well-known", "/.well-known/", "/.well-known/openid-configuration", "/authorize", "/" + long(1023)} {
		w.refuses(raw("GET "+path, ""), 404, "not_found")
		w.refuses(post(path, "client_id=tv"), 404, "not_found")
	}
}

// P16.2: the second step: a route has one method, and says which.
func TestMethod(t *testing.T) {
	w := begun(t)
	for _, y := range ways() {
		for _, method := range []string{"GET", "POST", "HEAD", "PUT", "DELETE", "OPTIONS", "G", "POSTS", "XXXXXXXXXXXXXXXX"} {
			if method == y.method {
				continue
			}
			w.refuses(raw(method+" "+y.path, ""), 405, "invalid_request", y.allow)
			w.refuses(raw(method+" "+y.path+"?a=%", "a=%", formed, formed, user("ann")), 405, "invalid_request", y.allow)
		}
		plain := get(y.path)
		if y.method == "POST" {
			plain = post(y.path, "")
		}
		y.bare(w, plain)
	}
}

// P16.2: the third step: what is posted has no query, but may have an empty one.
func TestQueryOfPost(t *testing.T) {
	w := begun(t)
	for _, y := range ways() {
		if y.method != "POST" {
			continue
		}
		y.bare(w, post(y.path+"?", "a=1"))
		for _, query := range []string{"?a", "?a=1", "??", "?&", "?client_id=tv", "?%"} {
			w.bad(post(y.path+query, "a=1"))
			w.bad(raw("POST "+y.path+query, "a=1"))
			w.bad(raw("POST "+y.path+query, "a=1", "content-type: text/plain\r\n"))
		}
	}
}

// P16.2: the third step: the type of what is posted, once, whatever stands behind a ; and in whatever letters.
func TestType(t *testing.T) {
	w := begun(t)
	const form = "application/x-www-form-urlencoded"
	for _, y := range ways() {
		if y.method != "POST" {
			continue
		}
		for _, s := range []string{form, form + ";charset=utf-8", form + " ; a=b; c", strings.ToUpper(form), " \t" + form + "\t ", form + ";"} {
			y.bare(w, raw("POST "+y.path, "a=1", "Content-Type:"+s+"\r\n"))
		}
		for _, s := range []string{"", ";", "x", "text/plain", "application/json", form + "x", "x" + form, form[1:], ";" + form, form + ", " + form, "application/x-www-form-urlencode"} {
			w.refuses(raw("POST "+y.path, "a=1", "content-type: "+s+"\r\n"), 415, "invalid_request")
		}
		w.refuses(raw("POST "+y.path, "a=1"), 415, "invalid_request")
		w.refuses(raw("POST "+y.path, "a=1", "content-types: "+form+"\r\n"), 415, "invalid_request")
		w.bad(raw("POST "+y.path, "a=1", formed, formed))
		w.bad(raw("POST "+y.path, "a=1", formed, "Content-Type: text/plain\r\n"))
		w.bad(raw("POST "+y.path, "a=1", "content-type: x\r\n", "content-type:\r\n"))
	}
}

// P16.2: the third step: the form, of a body or of a query.
func TestForm(t *testing.T) {
	w := begun(t)
	many := strings.Repeat("a&", api.MaxPairs)
	for _, y := range ways() {
		for _, s := range []string{"a=%", "%", "a=%4", "a=%zz", "%x=1", many + "a", many + "a&"} {
			if y.method == "GET" {
				w.bad(get(y.path + "?" + s))
				continue
			}
			w.bad(post(y.path, s))
			w.refuses(raw("POST "+y.path, s), 415, "invalid_request")
		}
		for _, s := range []string{"", "&&", "a", "a=1", "=", many, "a=1&a=1", "%41=%41", "a=" + long(900)} {
			if y.method == "GET" {
				y.bare(w, get(y.path+"?"+s))
				continue
			}
			y.bare(w, post(y.path, s))
		}
		if y.method == "POST" {
			y.bare(w, post(y.path, "a="+long(api.MaxForm-2)))
			w.bad(post(y.path, "a="+long(api.MaxForm-1)))
			w.bad(post(y.path, "a=b c"))
			w.bad(post(y.path, "a=\x00"))
			w.bad(post(y.path, "a=\xff"))
		}
	}
}

// P16.2: of what is got neither the body nor its type is looked at.
func TestBodyOfGet(t *testing.T) {
	w := begun(t)
	for _, y := range ways() {
		if y.method != "GET" {
			continue
		}
		y.bare(w, raw("GET "+y.path, "a=%"))
		y.bare(w, raw("GET "+y.path, "\x00\xff", formed, formed))
		y.bare(w, raw("GET "+y.path, "user_code=x&user_code=x", "content-type: text/plain\r\n"))
		y.bare(w, raw("GET "+y.path, long(20000), formed))
	}
}

// P16.2: without an engine there is no text; with one of which nothing was asked there is.
func TestNoEngine(t *testing.T) {
	f := frontOf(t, config())
	for _, s := range []string{"", get("/"), get("/waiting", user("ann")), post("/token", "a=1"), post("/device_authorization", "client_id=tv")} {
		if got := f.Serve(nil, s, deviceDraws(1)); got != "" {
			t.Errorf("%q is answered %q", s, got)
		}
	}
	begun(t).grants(get("/waiting", user("ann")), `{"requests":[]}`)
}

// P16.2: an answer's fields, in their order, and its body.
func TestAnswer(t *testing.T) {
	w := begun(t)
	got := w.serve(post("/token", "a=1", basic("no", "one")))
	p, err, _ := http.ParseResponse(got)
	want := []api.Pair{{Name: "content-type", Value: "application/json"}, {Name: "cache-control", Value: "no-store"}, {Name: "www-authenticate", Value: `Basic realm="wicket"`}}
	if err != api.OK || p.Status != 401 || len(p.Fields) != 3 || p.Fields[0] != want[0] || p.Fields[1] != want[1] || p.Fields[2] != want[2] || p.Body != `{"error":"invalid_client"}` {
		t.Errorf("%+v, %d", p, err)
	}
	p, _, _ = http.ParseResponse(w.serve(get("/waiting", user("ann"))))
	if p.Status != 200 || len(p.Fields) != 2 || p.Fields[0] != want[0] || p.Fields[1] != want[1] {
		t.Errorf("%+v", p)
	}
}

// P16.2: an answer whose object has no text is the server's fault: here what is shown is none, though the engine keeps it.
func TestNoText(t *testing.T) {
	w := begun(t)
	made, err := w.e.Ask(api.Ask{Flow: api.FlowDevice, Client: "tv", Message: "\xff"}, source(deviceDraws(1)))
	if err != api.OK {
		t.Fatal(err)
	}
	w.refuses(get("/verify?user_code="+made.User, user("ann")), 500, "server_error")
	if _, err := w.e.Ask(api.Ask{Flow: api.FlowPoll, Client: "c", Subject: "ann", Message: "\x80"}, source(authDraws(2))); err != api.OK {
		t.Fatal(err)
	}
	w.refuses(get("/waiting", user("ann")), 500, "server_error")
	w.grants(get("/waiting", user("bob")), `{"requests":[]}`)
	w.grants(post("/decide", "decision=deny&request=2&binding_message=%80", user("ann")), `{"decided":"deny"}`)
}

// askedBy has the till ask for ann sixteen times, so that what waits for her has so many bytes.
func askedBy(t *testing.T, size int) *world {
	t.Helper()
	w := begun(t)
	text := `{"requests":[]}`
	for i := range 16 {
		text += `,{"request":` + decimal(uint64(i+1)) + `,"client_id":"c","scope":"","binding_message":""}`
	}
	room := size - (len(text) - 1) - 16*128*6
	for i := range 16 {
		scope := long(room / 16)
		if i == 15 {
			scope = long(room - 15*(room/16))
		}
		a := api.Ask{Flow: api.FlowPoll, Client: "c", Scope: scope, Subject: "ann", Message: strings.Repeat("\x01", 128)}
		if _, err := w.e.Ask(a, source(authDraws(i))); err != api.OK {
			t.Fatal(err)
		}
	}
	return w
}

// P16.2: a text that would be longer than JSON may be is none either.
func TestLongText(t *testing.T) {
	for _, size := range []int{api.MaxJson - 1, api.MaxJson} {
		p, _, _ := http.ParseResponse(askedBy(t, size).serve(get("/waiting", user("ann"))))
		if p.Status != 200 || len(p.Body) != size {
			t.Fatalf("%d, %d bytes", p.Status, len(p.Body))
		}
	}
	for _, size := range []int{api.MaxJson + 1, api.MaxJson + 500} {
		askedBy(t, size).refuses(get("/waiting", user("ann")), 500, "server_error")
	}
}

// P16.2: an engine that cannot write is the server's fault, at each route that asks it to.
func TestDeadDisk(t *testing.T) {
	for _, do := range []func(w *world) string{
		func(w *world) string { return post("/device_authorization", "client_id=tv") },
		func(w *world) string { return post("/bc-authorize", forAnn, till()) },
		func(w *world) string {
			return post("/bc-authorize", forAnn+"&client_notification_token=t", box())
		},
		func(w *world) string { return pollDevice(w.device().code) },
		func(w *world) string {
			a := w.polled()
			w.serve(pollCiba(till(), a.code))
			return pollCiba(till(), a.code)
		},
		func(w *world) string {
			a := w.polled()
			w.grants(post("/decide", "decision=approve&binding_message=42&request="+decimal(a.number), user("ann")), `{"decided":"approve"}`)
			return pollCiba(till(), a.code)
		},
		func(w *world) string {
			return post("/decide", "decision=deny&user_code="+w.device().user, user("ann"))
		},
		func(w *world) string {
			return post("/decide", "decision=approve&binding_message=7&request="+decimal(w.told().number), user("ann"))
		},
	} {
		w := begun(t)
		s := do(w)
		w.d.Arm(1)
		w.gets(s, refusal(500, "server_error"), deviceDraws(99)...)
		if !w.d.Dead() {
			t.Errorf("%q did not come to the disk", s)
		}
		w.gets(s, refusal(500, "server_error"), deviceDraws(99)...)
	}
}

// P16.2: what only looks is answered whatever the disk is.
func TestLooksOnDeadDisk(t *testing.T) {
	w := begun(t)
	a, b := w.device(), w.polled()
	w.d.Arm(1)
	w.e.Compact()
	if !w.d.Dead() {
		t.Fatal("the disk is not dead")
	}
	w.grants(get("/verify?user_code="+a.user, user("ann")), `{"client_id":"tv","scope":"read write","binding_message":""}`)
	w.grants(get("/waiting", user("ann")), `{"requests":[{"request":`+decimal(b.number)+`,"client_id":"till","scope":"openid pay","binding_message":"42"}]}`)
	w.grants(post("/introspect", "token=x", till()), `{"active":false}`)
	w.grants(get("/.well-known/oauth-authorization-server"), metadata("https://w"))
}

// P16.2: a disk that is full is the server's fault, and no row is lost by it.
func TestFullDisk(t *testing.T) {
	d, err := disk.New(nil, 700)
	if err != api.OK {
		t.Fatal(err)
	}
	e, err := grant.Open(d, most)
	if err != api.OK {
		t.Fatal(err)
	}
	w := &world{t: t, d: d, f: frontOf(t, config()), e: e}
	full := refusal(500, "server_error")
	for range 20 {
		n := w.next()
		if got := w.serve(post("/device_authorization", "client_id=tv"), deviceDraws(n)...); got == full {
			w.gets(post("/bc-authorize", forAnn, till()), full, authDraws(n)...)
			w.gets(pollDevice(codeOf(deviceDraws(1)[:32])), full)
			return
		}
	}
	t.Fatal("the disk was not full")
}

// P16.2: the draws are codes.NewSource's of them, and are a request's own.
func TestDraws(t *testing.T) {
	w := begun(t)
	ask := post("/device_authorization", "client_id=tv")
	for n := range 40 {
		w.gets(ask, refusal(500, "server_error"), make([]byte, n)[:n:n]...)
	}
	draws := append(make([]byte, 32), 255, 240, 0, 19, 241, 20, 239, 1, 2, 3, 250, 4, 0, 0, 0)
	got := w.serve(ask, draws...)
	if !strings.Contains(got, `"user_code":"BZBZ-CDFG"`) {
		t.Errorf("%q", got)
	}
	wide := append(make([]byte, 40*102), long(40)...)
	w.gets(ask, refusal(500, "server_error"), wide...)
	if len(w.e.All()) != 1 {
		t.Errorf("%v", w.e.All())
	}
}
