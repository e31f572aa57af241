package endpoint_test

import (
	"fmt"
	"math"
	"strings"
	"testing"

	"wicket/api"
	"wicket/endpoint"
)

// with is the configuration, changed.
func with(change func(c *api.Config)) api.Config {
	c := config()
	change(&c)
	return c
}

func issuer(text string) func(*api.Config) { return func(c *api.Config) { c.Issuer = text } }
func clients(text string) func(*api.Config) {
	return func(c *api.Config) { c.Registry = text }
}
func keys(l ...api.Key) func(*api.Config) { return func(c *api.Config) { c.Keys = l } }
func rows(n int) func(*api.Config)        { return func(c *api.Config) { c.Most = n } }

func isMade(t *testing.T, change func(c *api.Config)) {
	t.Helper()
	if f, err := endpoint.New(with(change)); f == nil || err != api.OK {
		t.Errorf("New(%+v): %v, %d", with(change), f, err)
	}
}

func isNotMade(t *testing.T, want api.Errno, changes ...func(c *api.Config)) {
	t.Helper()
	c := config()
	for _, change := range changes {
		change(&c)
	}
	if f, err := endpoint.New(c); f != nil || err != want {
		t.Errorf("New(%+v): %v, %d, not %d", c, f, err, want)
	}
}

// P16.1: an issuer has 9 to MaxIssuer bytes, begins with https:// and does not end with /.
func TestIssuer(t *testing.T) {
	for _, s := range []string{"https://w", "https://a.example:8443/path", "https:///x", "https://a//b", "https://" + long(248)} {
		isMade(t, issuer(s))
	}
	for _, s := range []string{
		"", "h", "w", "https://", "https:///", "https://w/", "https://w//", "https://" + long(249), "https://" + long(247) + "/",
		"http://wwww", "http://https://w", "HTTPS://w", "Https://w", "https:/wwww", "https//wwww", "xhttps://w", " https://w", "https://w ", "https://w\n",
	} {
		isNotMade(t, api.ErrConfig, issuer(s))
	}
}

// P16.1: each of an issuer's bytes is from 33 to 126, and neither " nor \, wherever it stands.
func TestIssuerBytes(t *testing.T) {
	for b := range 256 {
		for _, form := range []string{"https://%sww", "https://w%sw", "https://ww%s"} {
			s := strings.Replace(form, "%s", string([]byte{byte(b)}), 1)
			if 33 <= b && b <= 126 && b != '"' && b != '\\' && (b != '/' || !strings.HasSuffix(s, "/")) {
				isMade(t, issuer(s))
			} else {
				isNotMade(t, api.ErrConfig, issuer(s))
			}
		}
	}
}

// P16.1: the registry's error is client.Parse's.
func TestRegistry(t *testing.T) {
	many := ""
	for i := range api.MaxClients {
		many += fmt.Sprintf("id=c%d&grants=device\n", i)
	}
	for _, s := range []string{"", "\n", "# none", many, "#" + long(api.MaxRegistry-1)} {
		isMade(t, clients(s))
	}
	isNotMade(t, api.ErrLine, clients("id=x"))
	isNotMade(t, api.ErrLine, clients("id=a&grants=device\nid=a&grants=other"))
	isNotMade(t, api.ErrThere, clients("id=a&grants=device\nid=a&grants=ciba"))
	isNotMade(t, api.ErrMany, clients(many+"id=x&grants=device"))
	isNotMade(t, api.ErrLong, clients("#"+long(api.MaxRegistry)))
}

func keyOf(i int) api.Key {
	return api.Key{Kid: fmt.Sprintf("k%d", i), Secret: strings.Repeat("s", 16+i)}
}

func ring(n int) []api.Key {
	var l []api.Key
	for i := range n {
		l = append(l, keyOf(i))
	}
	return l
}

// P16.1: there is a key, and they are a ring of keys.
func TestKeys(t *testing.T) {
	for _, n := range []int{1, 2, api.MaxKeys} {
		isMade(t, keys(ring(n)...))
	}
	isMade(t, keys(api.Key{Kid: long(32), Secret: long(256)}))
	isNotMade(t, api.ErrKey, keys())
	isNotMade(t, api.ErrKey, keys([]api.Key{}...))
	isNotMade(t, api.ErrKey, keys(ring(api.MaxKeys+1)...))
	isNotMade(t, api.ErrKey, keys(keyOf(1), keyOf(2), api.Key{Kid: "k1", Secret: long(20)}))
	for _, k := range []api.Key{
		{}, {Kid: "", Secret: long(16)}, {Kid: long(33), Secret: long(16)}, {Kid: "k x", Secret: long(16)}, {Kid: "kx", Secret: long(15)}, {Kid: "kx", Secret: long(257)},
	} {
		isNotMade(t, api.ErrKey, keys(k))
		isNotMade(t, api.ErrKey, keys(append(ring(3), k)...))
		isNotMade(t, api.ErrKey, keys(append([]api.Key{k}, ring(3)...)...))
	}
}

// P16.1: so many rows a store may have.
func TestMost(t *testing.T) {
	for _, n := range []int{1, 2, 1023, api.MaxPending} {
		isMade(t, rows(n))
	}
	for _, n := range []int{0, -1, api.MaxPending + 1, math.MinInt, math.MaxInt} {
		isNotMade(t, api.ErrConfig, rows(n))
	}
}

// P16.1: the first error is told.
func TestNewOrder(t *testing.T) {
	isNotMade(t, api.ErrConfig, issuer("w"), clients("id=x"), keys(), rows(0))
	isNotMade(t, api.ErrConfig, issuer("w"), keys())
	isNotMade(t, api.ErrLine, clients("id=x"), keys(), rows(0))
	isNotMade(t, api.ErrLine, clients("id=x"), rows(0))
	isNotMade(t, api.ErrKey, keys(), rows(0))
}

// P16.1: a Front keeps nothing that changes: what one engine was asked has no part in what another answers.
func TestKeepsNothing(t *testing.T) {
	w, fresh := begun(t), begun(t)
	for _, do := range []func(w *world){
		func(w *world) { w.device() },
		func(w *world) { w.told() },
		func(w *world) { w.serve(get("/verify?user_code=x", user("ann"))) },
	} {
		do(w)
		do(&world{t: t, d: fresh.d, f: w.f, e: fresh.e, n: fresh.n})
		fresh.n = w.n
	}
	a, b := w.serve(get("/waiting", user("ann"))), fresh.serve(get("/waiting", user("ann")))
	if a != b || !strings.Contains(a, `"client_id":"box"`) {
		t.Errorf("%q and %q", a, b)
	}
}
