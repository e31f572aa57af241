package endpoint_test

import (
	"encoding/base64"
	"encoding/binary"
	"math"
	"slices"
	"strconv"
	"strings"
	"testing"

	"wicket/api"
	"wicket/client"
	"wicket/codes"
	"wicket/disk"
	"wicket/endpoint"
	"wicket/grant"
	"wicket/http"
	"wicket/jtext"
)

const (
	roomy = 1 << 24
	most  = 40
	last  = uint64(math.MaxUint64)

	deviceType = "urn:ietf:params:oauth:grant-type:device_code"
	cibaType   = "urn:openid:params:grant-type:ciba"
)

// A television without a secret and a set with one, a till that polls, a box that is told by pings, one that may do both, and one that may ask for people but cannot show who it is.
const registry = "id=tv&grants=device&scope=read+write\n" +
	"id=set&secret=y&grants=device&scope=openid\n" +
	"id=till&secret=t+:%2F&grants=ciba&scope=openid+pay+more\n" +
	"id=box&secret=s&grants=ciba&ping=yes&url=https://b/cb&scope=openid+pay\n" +
	"id=both&secret=x&grants=device+ciba&scope=openid\n" +
	"id=open&grants=device+ciba&scope=openid\n"

func config() api.Config {
	return api.Config{
		Issuer:   "https://w",
		Registry: registry,
		Keys:     []api.Key{{Kid: "k1", Secret: "0123456789abcdef"}, {Kid: "k0", Secret: strings.Repeat("old", 9)}},
		Most:     most,
	}
}

func frontOf(t *testing.T, c api.Config) *endpoint.Front {
	t.Helper()
	f, err := endpoint.New(c)
	if err != api.OK || f == nil {
		t.Fatalf("New(%+v): %v, %d", c, f, err)
	}
	return f
}

// world is a front, and an engine on its disk.
type world struct {
	t *testing.T
	d *disk.Disk
	f *endpoint.Front
	e *grant.Engine
	n int // requests that were asked for
}

func begun(t *testing.T) *world {
	t.Helper()
	return on(t, config(), most)
}

func on(t *testing.T, c api.Config, most int) *world {
	t.Helper()
	d, err := disk.New(nil, roomy)
	if err != api.OK {
		t.Fatalf("disk.New: %d", err)
	}
	e, err := grant.Open(d, most)
	if err != api.OK {
		t.Fatalf("grant.Open: %d", err)
	}
	return &world{t: t, d: d, f: frontOf(t, c), e: e}
}

// raw is a request of this first line, with these fields' lines.
func raw(line, body string, fields ...string) string {
	s := line + " HTTP/1.1\r\n" + strings.Join(fields, "")
	if body != "" {
		s += "content-length: " + strconv.Itoa(len(body)) + "\r\n"
	}
	return s + "\r\n" + body
}

const formed = "content-type: application/x-www-form-urlencoded\r\n"

func post(path, form string, fields ...string) string {
	return raw("POST "+path, form, append([]string{formed}, fields...)...)
}

func get(target string, fields ...string) string {
	return raw("GET "+target, "", fields...)
}

func basic(id, secret string) string {
	return "authorization: Basic " + base64.StdEncoding.EncodeToString([]byte(id+":"+secret)) + "\r\n"
}

// The headers of those who have a secret.
func till() string { return basic("till", "t+:%2F") }
func box() string  { return basic("box", "s") }
func both() string { return basic("both", "x") }
func set() string  { return basic("set", "y") }

func user(name string) string { return "user: " + name + "\r\n" }

var reasons = map[int]string{
	200: "OK", 400: "Bad Request", 401: "Unauthorized", 404: "Not Found", 405: "Method Not Allowed", 413: "Content Too Large",
	415: "Unsupported Media Type", 429: "Too Many Requests", 500: "Internal Server Error",
}

// sent is a response, byte for byte.
func sent(status int, body string, further ...string) string {
	return "HTTP/1.1 " + strconv.Itoa(status) + " " + reasons[status] + "\r\n" +
		"content-type: application/json\r\ncache-control: no-store\r\n" + strings.Join(further, "") +
		"content-length: " + strconv.Itoa(len(body)) + "\r\n\r\n" + body
}

func refusal(status int, why string, further ...string) string {
	return sent(status, `{"error":"`+why+`"}`, further...)
}

const (
	askBasic = "www-authenticate: Basic realm=\"wicket\"\r\n"
	allowGet = "allow: GET\r\n"
	toPost   = "allow: POST\r\n"
)

// serve is what is answered. Whatever it is, it can be read, and a refusal changes no row, but for one that notes the poll (P16.13).
func (w *world) serve(raw string, draws ...byte) string {
	w.t.Helper()
	rows, now, ops := w.e.All(), w.e.Now(), w.d.Count()
	got := w.f.Serve(w.e, raw, draws)
	p, err, _ := http.ParseResponse(got)
	if err != api.OK {
		w.t.Fatalf("%q is answered %q, which is no response: %d", raw, got, err)
	}
	v, err, _ := jtext.Parse(p.Body)
	if err != api.OK || v.Kind != api.JsonObject {
		w.t.Fatalf("%q is answered %q, whose body is no object: %d", raw, got, err)
	}
	why, refused := jtext.Get(v, "error")
	if refused != (p.Status != 200) || refused && len(v.Names) != 1 {
		w.t.Fatalf("%q is answered %q", raw, got)
	}
	if !refused || why.Text == "slow_down" || why.Text == "authorization_pending" {
		return got
	}
	if !slices.Equal(w.e.All(), rows) || w.e.Now() != now || p.Status != 500 && w.d.Count() != ops {
		w.t.Fatalf("%q is refused with %q, and something has changed", raw, got)
	}
	return got
}

// gets: raw is answered want, byte for byte.
func (w *world) gets(raw, want string, draws ...byte) {
	w.t.Helper()
	if got := w.serve(raw, draws...); got != want {
		w.t.Fatalf("%q is answered\n%q, not\n%q", raw, got, want)
	}
}

// grants: raw is answered 200 with that object.
func (w *world) grants(raw, body string, draws ...byte) {
	w.t.Helper()
	w.gets(raw, sent(200, body), draws...)
}

// refuses: raw is refused so.
func (w *world) refuses(raw string, status int, why string, further ...string) {
	w.t.Helper()
	w.gets(raw, refusal(status, why, further...))
}

// bad: raw is refused as 400 invalid_request.
func (w *world) bad(raw string) {
	w.t.Helper()
	w.refuses(raw, 400, "invalid_request")
}

// notBad: raw is not refused as 400 invalid_request.
func (w *world) notBad(raw string) {
	w.t.Helper()
	if got := w.serve(raw); got == refusal(400, "invalid_request") {
		w.t.Fatalf("%q is answered %q", raw, got)
	}
}

// deviceDraws are bytes of a device code and a user code that hang on n; authDraws those of an auth_req_id.
func deviceDraws(n int) []byte {
	b := binary.BigEndian.AppendUint64(make([]byte, 24), uint64(n))
	for range 8 {
		b = append(b, byte(n%20))
		n /= 20
	}
	return b
}

func authDraws(n int) []byte {
	return binary.BigEndian.AppendUint64(make([]byte, 16), uint64(n))
}

// codeOf is what a client shows whose code was made of these bytes.
func codeOf(draws []byte) string { return base64.RawURLEncoding.EncodeToString(draws) }

// userOf is the user code that was made of eight bytes below 240, as it is shown.
func userOf(draws []byte) string {
	s := ""
	for _, b := range draws {
		s += string("BCDFGHJKLMNPQRSTVWXZ"[b%20])
	}
	return s[:4] + "-" + s[4:]
}

// asked is a request that was made: what its client polls with, and what is typed for it.
type asked struct {
	number uint64
	code   string
	user   string
}

func (w *world) next() int {
	w.n++
	return w.n
}

// device has the television ask.
func (w *world) device() asked {
	w.t.Helper()
	n := w.next()
	draws := deviceDraws(n)
	got := w.serve(post("/device_authorization", "client_id=tv"), draws...)
	a := asked{uint64(n), codeOf(draws[:32]), userOf(draws[32:])}
	if !strings.Contains(got, a.code) || !strings.Contains(got, a.user) {
		w.t.Fatalf("%q", got)
	}
	return a
}

// ciba has a client ask for ann.
func (w *world) ciba(who, form string) asked {
	w.t.Helper()
	n := w.next()
	draws := authDraws(n)
	got := w.serve(post("/bc-authorize", form, who), draws...)
	a := asked{number: uint64(n), code: codeOf(draws)}
	if !strings.Contains(got, a.code) {
		w.t.Fatalf("%q", got)
	}
	return a
}

const forAnn = "scope=openid+pay&login_hint=ann"

// polled and told have the till and the box ask for ann.
func (w *world) polled() asked { return w.ciba(till(), forAnn+"&binding_message=42") }
func (w *world) told() asked {
	return w.ciba(box(), forAnn+"&binding_message=7&client_notification_token=tok")
}

func pollDevice(code string) string {
	return post("/token", "client_id=tv&grant_type="+deviceType+"&device_code="+code)
}

func pollCiba(who, code string) string {
	return post("/token", "grant_type="+cibaType+"&auth_req_id="+code, who)
}

// tick sets the clock.
func (w *world) tick(now uint64) {
	w.t.Helper()
	if _, err := w.e.Tick(now); err != api.OK {
		w.t.Fatalf("Tick(%d): %d", now, err)
	}
}

func (w *world) row(number uint64) api.Pending {
	w.t.Helper()
	for _, p := range w.e.All() {
		if p.Number == number {
			return p
		}
	}
	w.t.Fatalf("there is no request %d", number)
	return api.Pending{}
}

// decimal is n, written.
func decimal(n uint64) string { return strconv.FormatUint(n, 10) }

// long is a text of so many bytes.
func long(n int) string { return strings.Repeat("x", n) }

// escaped is every byte of s as a form may have it.
func escaped(s string) string {
	const digits = "0123456789abcdef"
	out := ""
	for i := range len(s) {
		out += "%" + string(digits[s[i]>>4]) + string(digits[s[i]&15])
	}
	return out
}

func source(draws []byte) *codes.Source { return codes.NewSource(draws) }

// metadata is what is told of a server with that issuer.
func metadata(issuer string) string {
	return `{"issuer":"` + issuer + `",` +
		`"device_authorization_endpoint":"` + issuer + `/device_authorization",` +
		`"backchannel_authentication_endpoint":"` + issuer + `/bc-authorize",` +
		`"token_endpoint":"` + issuer + `/token",` +
		`"introspection_endpoint":"` + issuer + `/introspect",` +
		`"grant_types_supported":["urn:ietf:params:oauth:grant-type:device_code","urn:openid:params:grant-type:ciba"],` +
		`"backchannel_token_delivery_modes_supported":["poll","ping"],` +
		`"token_endpoint_auth_methods_supported":["client_secret_basic","client_secret_post","none"]}`
}

func printed(l []api.Client) (string, api.Errno) { return client.Print(l) }
