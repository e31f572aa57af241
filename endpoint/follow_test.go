package endpoint_test

import (
	"math/rand"
	"slices"
	"strings"
	"testing"

	"wicket/api"
)

// filled is a world in which all that may be asked for waits, is decided, over or taken, and codes of which are known.
func filled(t *testing.T) (*world, []asked) {
	t.Helper()
	w := begun(t)
	var l []asked
	for i := range 24 {
		switch i % 3 {
		case 0:
			l = append(l, w.device())
		case 1:
			l = append(l, w.polled())
		case 2:
			l = append(l, w.told())
		}
		how, by := []string{"approve", "deny"}[i/3%2], "user_code="+l[i].user
		if l[i].user == "" {
			by = byNumber(l[i], []string{"", "42", "7"}[i%3])
		}
		if i < 18 {
			w.decided("ann", by, how)
			w.tick(w.e.Now() + 20)
		}
	}
	return w, l
}

// refused are requests that are refused ahead of the engine, whatever it has.
func refused(l []asked) []string {
	some := []string{
		"", "x", long(api.MaxHttp + 1), get("/"), get("/token"), post("/waiting", ""), raw("POST /token", "a"), post("/token", "a=%"), post("/token?a", ""), post("/token", "client_id=no"),
		post("/token", "a=1", basic("tv", "x")), post("/device_authorization", "client_id=tv&scope=pay"), post("/device_authorization", "a=1", till()), post("/bc-authorize", "scope=pay", till()),
		post("/bc-authorize", "login_hint=%00", till()), post("/bc-authorize", "login_hint=a&binding_message=%00", till()), post("/bc-authorize", "login_hint=a&requested_expiry=0", till()), post("/bc-authorize", "login_hint=a", box()),
		post("/token", "client_id=tv&grant_type=x"), post("/introspect", "client_id=tv"), post("/introspect", "", till()), get("/verify"), get("/verify", user("ann")), get("/waiting"),
	}
	for _, a := range l {
		some = append(some,
			get("/verify?user_code="+a.user), get("/verify?user_code="+a.user+"&user_code="+a.user, user("ann")), post("/token", "client_id=tv&grant_type="+cibaType+"&auth_req_id="+a.code), post("/token", "client_id=tv&device_code="+a.code),
			post("/decide", "decision=approve&user_code=x"+a.user+"&request="+decimal(a.number), user("ann")), post("/decide", "decision=maybe&request="+decimal(a.number), user("ann")), post("/decide", "decision=deny&request="+decimal(a.number)), post("/token", "grant_type="+deviceType+"&device_code="+a.code, box()))
	}
	return some
}

// P16.13: what is refused ahead of the engine is refused alike whatever the engine has, and uses no attempt.
func TestRefusedAlike(t *testing.T) {
	w, l := filled(t)
	empty := begun(t)
	dead := begun(t)
	dead.d.Arm(1)
	dead.e.Compact()
	for range 3 {
		for _, s := range refused(l) {
			got := w.serve(s)
			if !strings.Contains(got, `{"error":"`) {
				t.Fatalf("%q is answered %q", s, got)
			}
			empty.gets(s, got)
			dead.gets(s, got)
			w.gets(s, got)
			w.gets(s, got, deviceDraws(500)...)
		}
	}
	last := l[len(l)-3]
	w.grants(get("/verify?user_code="+last.user, user("ann")), seen("tv", "read write", ""))
}

// bent is s with some bytes changed, taken out, put in or doubled.
func bent(r *rand.Rand, s string) string {
	b := []byte(s)
	for range 1 + r.Intn(4) {
		i := r.Intn(len(b) + 1)
		switch r.Intn(5) {
		case 0:
			b = slices.Insert(b, i, byte(r.Intn(256)))
		case 1:
			b = slices.Delete(b, min(i, len(b)), min(i+r.Intn(4), len(b)))
		case 2:
			b = b[:i]
		case 3:
			j := min(i+r.Intn(30), len(b))
			b = slices.Insert(b, j, slices.Clone(b[i:j])...)
		default:
			if i < len(b) {
				b[i] = " &=%\r\n:/?a"[r.Intn(10)]
			}
		}
	}
	return string(b)
}

// P16.13: whatever bytes come, there is one response that can be read, and a refusal changes no row (serve holds both).
func TestWhateverComes(t *testing.T) {
	r := rand.New(rand.NewSource(1))
	w, l := filled(t)
	good := refused(l)[20:]
	for _, a := range l {
		good = append(good, pollDevice(a.code), pollCiba(till(), a.code), pollCiba(box(), a.code), get("/verify?user_code="+a.user, user("eve")), post("/decide", byNumber(a, "42")+"&decision=deny", user("ann")))
	}
	for i := range 6000 {
		s := bent(r, good[r.Intn(len(good))])
		if i%3 == 0 {
			head, body, _ := strings.Cut(s, "\r\n\r\n")
			line, _, _ := strings.Cut(head, " HTTP")
			s = raw(line, body, formed, till())
		}
		draws := make([]byte, r.Intn(60))
		r.Read(draws)
		w.serve(s, draws...)
		if i%100 == 0 {
			w.tick(w.e.Now() + uint64(r.Intn(90)))
		}
	}
}

// P16.13: a slow_down and an authorization_pending note the poll, and change nothing else.
func TestNoted(t *testing.T) {
	w := begun(t)
	w.polled()
	a := w.device()
	w.tick(7)
	want := w.row(a.number)
	other := w.row(1)
	want.Asked, want.Polled = true, 7
	w.refuses(pollDevice(a.code), 400, "authorization_pending")
	if p := w.row(a.number); p != want {
		t.Errorf("%+v, not %+v", p, want)
	}
	w.tick(8)
	want.Polled, want.Interval = 8, 10
	w.refuses(pollDevice(a.code), 400, "slow_down")
	if p := w.row(a.number); p != want || w.row(1) != other || len(w.e.All()) != 2 {
		t.Errorf("%+v, not %+v", p, want)
	}
}

// P16.14: a wrong secret and a missing one are answered alike, but for one field; so are an unknown client and a wrong secret.
func TestSecretsAlike(t *testing.T) {
	for _, secret := range []string{"s", "other", long(256)} {
		w := on(t, with(clients("id=box&secret="+secret+"&grants=device+ciba&scope=openid")), most)
		for _, y := range clientWays() {
			want := w.serve(post(y.path, y.form+"&client_id=box"))
			for _, form := range []string{"client_id=box&client_secret=x", "client_id=box&client_secret=" + secret + "x", "client_id=box&client_secret=" + strings.ToUpper(secret), "client_id=no&client_secret=" + secret, "client_id=no", "client_id=box&client_secret="} {
				w.gets(post(y.path, y.form+"&"+form), want)
			}
			for _, header := range []string{basic("box", "x"), basic("box", ""), basic("no", secret), basic("no", ""), basic("box", secret+"x")} {
				if got := w.serve(post(y.path, y.form, header)); strings.Replace(got, askBasic, "", 1) != want || got == want {
					t.Errorf("%q, and %q", got, want)
				}
			}
		}
	}
}

// P16.14: beyond its attempts a subject is answered alike whether the code is anybody's or nobody's.
func TestGuessesAlike(t *testing.T) {
	w, l := filled(t)
	empty := begun(t)
	for i := range 40 {
		typed := []string{l[21].user, l[0].user, "x", "BCDFGHJK", long(64), l[18].user}[i%6]
		s := get("/verify?user_code="+typed, user("eve"))
		if i%4 > 1 {
			s = post("/decide", "binding_message="+decimal(uint64(i%3))+"&decision=deny&user_code="+typed, user("eve"))
		}
		if i < api.GuessTries {
			s = get("/verify?user_code=x", user("eve"))
		}
		got := w.serve(s)
		empty.gets(s, got)
		if spent := got == refusal(429, "too_many_attempts"); spent != (i >= api.GuessTries) {
			t.Fatalf("%d: %q is answered %q", i, s, got)
		}
	}
}
