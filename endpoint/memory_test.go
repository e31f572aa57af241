package endpoint_test

import (
	"cmp"
	"runtime"
	"slices"
	"strings"
	"testing"
	"unsafe"

	"wicket/api"
	"wicket/endpoint"
)

// span is a piece of memory, from low up to high.
type span struct{ low, high uintptr }

func spanOf(s string) span {
	low := uintptr(unsafe.Pointer(unsafe.StringData(s)))
	return span{low, low + uintptr(len(s))}
}

func spanOfBytes(p []byte) span {
	low := uintptr(unsafe.Pointer(unsafe.SliceData(p)))
	return span{low, low + uintptr(cap(p))}
}

// apart: do no two of the spans share a byte?
func apart(list []span) bool {
	list = slices.DeleteFunc(slices.Clone(list), func(s span) bool { return s.low == s.high })
	slices.SortFunc(list, func(a, b span) int { return cmp.Compare(a.low, b.low) })
	for i := 1; i < len(list); i++ {
		if list[i].low < list[i-1].high {
			return false
		}
	}
	return true
}

// memory is bytes that texts lie over, so that they can be written into.
type memory [][]byte

func (m *memory) own(s string) string {
	p := []byte(s)
	*m = append(*m, p)
	return unsafe.String(unsafe.SliceData(p), len(p))
}

// scribble writes into all of it.
func (m *memory) scribble() {
	for _, p := range *m {
		for i := range p {
			p[i] = '#'
		}
	}
	*m = nil
}

func (m *memory) config(c api.Config) api.Config {
	c.Issuer, c.Registry = m.own(c.Issuer), m.own(c.Registry)
	c.Keys = append(slices.Clone(c.Keys), api.Key{Kid: "spare", Secret: "room"})
	for i, k := range c.Keys {
		c.Keys[i] = api.Key{Kid: m.own(k.Kid), Secret: m.own(k.Secret)}
	}
	c.Keys = c.Keys[:len(c.Keys)-1]
	return c
}

func (m *memory) ping(p api.Ping) api.Ping {
	p.Client, p.Notify, p.Code = m.own(p.Client), m.own(p.Notify), m.own(p.Code)
	return p
}

// all is what the memory says now.
func (m *memory) all() string {
	s := ""
	for _, p := range *m {
		s += string(p) + "\x00"
	}
	return s
}

// Rule 3: what a Front is made of is not changed, its spare room neither, and not kept.
func TestConfigIsNotKept(t *testing.T) {
	var m memory
	c := m.config(config())
	was := m.all()
	f := frontOf(t, c)
	if m.all() != was || !slices.Equal(c.Keys[:3], append(slices.Clone(config().Keys), api.Key{Kid: "spare", Secret: "room"})) || c.Issuer != config().Issuer || c.Registry != registry {
		t.Fatalf("%q, %+v", m.all(), c)
	}
	w := begun(t)
	w.f = f
	m.scribble()
	clear(c.Keys[:cap(c.Keys)])
	a, b := w.device(), w.told()
	w.decided("ann", "user_code="+a.user, "approve")
	token := signed(config().Keys[0], claims("https://w", "ann", "tv", "read write", "1", 0, 3600))
	w.grants(pollDevice(a.code), bearer(token, "read write"))
	w.grants(introspect(token), `{"active":true,"scope":"read write","client_id":"tv","sub":"ann","iss":"https://w","jti":"1","iat":0,"exp":3600,"token_type":"Bearer"}`)
	w.grants(introspect(signed(config().Keys[1], claims("i", "s", "c", "", "j", 0, 9))), `{"active":true,"scope":"","client_id":"c","sub":"s","iss":"i","jti":"j","iat":0,"exp":9,"token_type":"Bearer"}`)
	w.grants(get("/.well-known/oauth-authorization-server"), metadata("https://w"))
	isSent(t, f, api.Ping{Client: "box", Notify: "n", Code: b.code}, pinged("b", "/cb", "n", `{"auth_req_id":"`+b.code+`"}`))
}

// Rule 3: the spare room of the keys is not seen, and a list that is nil is one that is empty.
func TestSpareKeys(t *testing.T) {
	l := ring(api.MaxKeys + 1)
	isMade(t, keys(l[:api.MaxKeys]...))
	l[2] = l[1]
	isMade(t, keys(l[:2]...))
	isNotMade(t, api.ErrKey, keys(l[:0]...))
	isNotMade(t, api.ErrKey, keys(nil...))
}

// served are requests of every route that are granted, one behind the other, and their draws.
func served(w *world) []string {
	a, b, c := w.device(), w.polled(), w.told()
	w.decided("ann", byNumber(c, "7"), "approve")
	token := signed(config().Keys[0], claims("i", "s", "c", "", "j", 0, 9))
	return []string{
		post("/device_authorization", "client_id=tv&scope=read"), post("/bc-authorize", "login_hint=bob&binding_message=m"+tok, box()), pollDevice(a.code), get("/verify?user_code="+a.user, user("ann")), get("/waiting", user("ann")),
		post("/decide", "decision=approve&user_code="+a.user, user("bob")), post("/decide", "decision=deny&"+byNumber(b, "42"), user("ann")), pollCiba(box(), c.code), introspect(token), introspect("x"),
		get("/.well-known/oauth-authorization-server"), get("/"), get("/token"), "x", "", long(api.MaxHttp + 1), post("/token", "client_id=tv", box()), post("/token", "a"), get("/waiting"),
	}
}

// Rule 3: a request and its draws are not changed, the draws' spare room neither, and not kept.
func TestRequestIsNotKept(t *testing.T) {
	w, plain := begun(t), begun(t)
	for i, s := range served(w) {
		if i == 0 {
			served(plain)
		}
		var m memory
		raw := m.own(s)
		draws := append(deviceDraws(100+i), "spare room"...)
		was := slices.Clone(draws)
		got := w.f.Serve(w.e, raw, draws[:40])
		if m.all() != s+"\x00" || !slices.Equal(draws, was) {
			t.Fatalf("%q, %q: they have changed", s, draws)
		}
		want := strings.Clone(got)
		m.scribble()
		clear(draws)
		if got != want || plain.f.Serve(plain.e, s, deviceDraws(100+i)) != want {
			t.Fatalf("%q is answered %q", s, got)
		}
		if !slices.Equal(w.e.All(), plain.e.All()) {
			t.Fatalf("behind %q the rows are %v", s, w.e.All())
		}
	}
	if !slices.Equal(w.e.Pings(), plain.e.Pings()) || !slices.Equal(w.e.Waiting("bob"), plain.e.Waiting("bob")) {
		t.Error(w.e.Pings(), w.e.Waiting("bob"))
	}
}

// Rule 3: no draws are draws that are nil, and those behind the list's end are not seen.
func TestSpareDraws(t *testing.T) {
	w := begun(t)
	draws := deviceDraws(1)
	for _, none := range [][]byte{nil, {}, draws[:0], draws[:39]} {
		w.gets(post("/device_authorization", "client_id=tv"), refusal(500, "server_error"), none...)
	}
	if len(w.e.All()) != 0 {
		t.Error(w.e.All())
	}
}

// Rule 3: responses are new memory, each of them.
func TestResponsesAreNewMemory(t *testing.T) {
	w := begun(t)
	var list []span
	var held []string
	for i, s := range served(w) {
		for range 2 {
			draws := deviceDraws(100 + i)
			got := w.f.Serve(w.e, s, draws)
			list = append(list, spanOf(got), spanOfBytes(draws))
			held = append(held, got)
		}
		list = append(list, spanOf(s))
	}
	p := w.e.Pings()
	p = append(p, api.Ping{Client: "box", Notify: "n", Code: "c"})
	for _, x := range p {
		for range 2 {
			got := w.f.Notify(x)
			if got == "" {
				t.Fatalf("%+v has no text", x)
			}
			held = append(held, got)
			list = append(list, spanOf(got))
		}
		list = append(list, spanOf(x.Client), spanOf(x.Notify), spanOf(x.Code))
	}
	if !apart(list) {
		t.Error("answers share memory")
	}
	runtime.KeepAlive(held)
}

// Rule 3: a ping is not changed and not kept.
func TestPingIsNotKept(t *testing.T) {
	f := frontOf(t, config())
	for _, p := range []api.Ping{{Client: "box", Notify: "n", Code: "c"}, {Client: "no", Notify: "n", Code: "c"}, {Client: "box", Notify: "n ", Code: "c"}, {Client: "box", Notify: "n", Code: "\xff"}} {
		var m memory
		q := m.ping(p)
		was := m.all()
		got := f.Notify(q)
		want := strings.Clone(got)
		if m.all() != was || q != p {
			t.Fatalf("%+v has become %+v", p, q)
		}
		m.scribble()
		if got != want || f.Notify(p) != want {
			t.Errorf("%q, not %q", got, want)
		}
	}
}

// A Front that is asked often does not grow.
func TestFrontDoesNotGrow(t *testing.T) {
	w := begun(t)
	requests := []string{post("/token", "client_id=no"+long(9000)), get("/waiting", user("ann")), get("/x"), introspect("x")}
	var before, behind runtime.MemStats
	runtime.GC()
	runtime.ReadMemStats(&before)
	for range 300 {
		for _, s := range requests {
			w.f.Serve(w.e, s, nil)
		}
	}
	runtime.GC()
	runtime.ReadMemStats(&behind)
	if grown := int64(behind.HeapAlloc) - int64(before.HeapAlloc); grown > 100000 {
		t.Errorf("%d bytes are held", grown)
	}
	runtime.KeepAlive(w)
}

// One Front may answer many at once, each of an engine of its own: it changes nothing of itself.
func TestManyAtOnce(t *testing.T) {
	f := frontOf(t, config())
	done := make(chan string)
	for range 8 {
		w := begun(t)
		go func(w *world, f *endpoint.Front) {
			all := ""
			for i := range 50 {
				all += f.Serve(w.e, post("/device_authorization", "client_id=tv"), deviceDraws(i)) + f.Serve(w.e, get("/waiting", user("ann")), nil) + f.Serve(w.e, "x", nil)
			}
			done <- all
		}(w, f)
	}
	first := <-done
	for range 7 {
		if <-done != first {
			t.Error("they are answered otherwise")
		}
	}
}
