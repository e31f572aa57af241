package endpoint_test

import (
	"bytes"
	"encoding/json"
	"fmt"
	"math/big"
	"math/rand"
	"net/url"
	"regexp"
	"slices"
	"strings"
	"testing"

	"wicket/api"
	"wicket/client"
	"wicket/codes"
	"wicket/disk"
	"wicket/grant"
	"wicket/http"
	"wicket/token"
)

// slow answers by the chapter's words, step by step, on an engine of its own.
type slow struct {
	e       *grant.Engine
	c       api.Config
	clients []api.Client
}

// said is a request that is being answered by the slow way.
type said struct {
	s     *slow
	q     api.Request
	pairs [][2]string
	draws []byte
}

// object is an object of these members: names, and values that are written already.
func object(members ...string) string {
	var l []string
	for i := 0; i < len(members); i += 2 {
		l = append(l, quote(members[i])+":"+members[i+1])
	}
	return "{" + strings.Join(l, ",") + "}"
}

func quote(s string) string {
	var b bytes.Buffer
	e := json.NewEncoder(&b)
	e.SetEscapeHTML(false)
	e.Encode(s)
	return strings.TrimSuffix(b.String(), "\n")
}

func (s *slow) serve(raw string, draws []byte) string {
	q, err, _ := http.ParseRequest(raw)
	if err == api.ErrLong {
		return refusal(413, "invalid_request")
	}
	if err != api.OK {
		return refusal(400, "invalid_request")
	}
	path, query, _ := strings.Cut(q.Target, "?")
	r := &said{s: s, q: q, draws: draws}
	posts := map[string]func() string{"/device_authorization": r.device, "/bc-authorize": r.ciba, "/token": r.token, "/introspect": r.introspect, "/decide": r.decide}
	gets := map[string]func() string{"/.well-known/oauth-authorization-server": func() string { return sent(200, metadata(s.c.Issuer)) }, "/verify": r.verify, "/waiting": r.waiting}
	do, form := gets[path], query
	switch {
	case posts[path] != nil:
		do, form = posts[path], q.Body
		if q.Method != "POST" {
			return refusal(405, "invalid_request", toPost)
		}
		kinds := r.field("content-type")
		if query != "" || len(kinds) > 1 {
			return refusal(400, "invalid_request")
		}
		if len(kinds) == 0 || !regexp.MustCompile(`^(?i)[ \t]*application/x-www-form-urlencoded[ \t]*(;.*)?$`).MatchString(kinds[0]) {
			return refusal(415, "invalid_request")
		}
	case do == nil:
		return refusal(404, "not_found")
	case q.Method != "GET":
		return refusal(405, "invalid_request", allowGet)
	}
	if !r.read(form) {
		return refusal(400, "invalid_request")
	}
	return do()
}

func (r *said) field(name string) []string {
	var l []string
	for _, f := range r.q.Fields {
		if strings.EqualFold(f.Name, name) {
			l = append(l, f.Value)
		}
	}
	return l
}

// read reads a form, and says whether it is one.
func (r *said) read(form string) bool {
	if len(form) > 16384 || !regexp.MustCompile(`^[!-~]*$`).MatchString(form) {
		return false
	}
	for _, piece := range strings.Split(form, "&") {
		if piece == "" {
			continue
		}
		name, value, _ := strings.Cut(piece, "=")
		n, err := url.QueryUnescape(name)
		v, more := url.QueryUnescape(value)
		if err != nil || more != nil || len(r.pairs) == 64 {
			return false
		}
		r.pairs = append(r.pairs, [2]string{n, v})
	}
	return true
}

// one is a parameter's value; false, if it is there twice.
func (r *said) one(name string) (string, bool) {
	var l []string
	for _, p := range r.pairs {
		if p[0] == name {
			l = append(l, p[1])
		}
	}
	if len(l) > 1 {
		return "", false
	}
	return strings.Join(l, ""), true
}

// client is the one that asks; else the refusal.
func (r *said) client() (api.Client, string) {
	headers := r.field("authorization")
	if len(headers) > 1 {
		return api.Client{}, refusal(400, "invalid_request")
	}
	header := strings.Join(headers, "")
	var form []api.Pair
	for _, p := range r.pairs {
		form = append(form, api.Pair{Name: p[0], Value: p[1]})
	}
	c, _, err := client.Authenticate(r.s.clients, header, form)
	switch {
	case err == api.ErrTwice:
		return c, refusal(400, "invalid_request")
	case err != api.OK && header != "":
		return c, refusal(401, "invalid_client", askBasic)
	case err != api.OK:
		return c, refusal(401, "invalid_client")
	}
	return c, ""
}

func (r *said) subject() (string, string) {
	l := r.field("user")
	if len(l) > 1 {
		return "", refusal(400, "invalid_request")
	}
	name := strings.Join(l, "")
	if name == "" || len(name) > 64 {
		return "", refusal(401, "login_required")
	}
	return name, ""
}

func (r *said) scope(c api.Client) (string, string) {
	asked, once := r.one("scope")
	if !once {
		return "", refusal(400, "invalid_request")
	}
	scope, err := client.Scope(c, asked)
	if err != api.OK {
		return "", refusal(400, "invalid_scope")
	}
	return scope, ""
}

func (r *said) device() string {
	c, no := r.client()
	if no != "" {
		return no
	}
	if c.Grants != 1 && c.Grants != 3 {
		return refusal(400, "unauthorized_client")
	}
	scope, no := r.scope(c)
	if no != "" {
		return no
	}
	m, err := r.s.e.Ask(api.Ask{Flow: 1, Client: c.Id, Scope: scope}, codes.NewSource(r.draws))
	if err != api.OK {
		return refusal(500, "server_error")
	}
	return sent(200, object("device_code", quote(m.Code), "user_code", quote(m.User), "verification_uri", quote(r.s.c.Issuer+"/verify"),
		"verification_uri_complete", quote(r.s.c.Issuer+"/verify?user_code="+m.User), "expires_in", fmt.Sprint(m.Life), "interval", fmt.Sprint(m.Interval)))
}

func (r *said) ciba() string {
	c, no := r.client()
	if no != "" {
		return no
	}
	if c.Grants < 2 || c.Secret == "" {
		return refusal(400, "unauthorized_client")
	}
	scope, no := r.scope(c)
	if no != "" {
		return no
	}
	if !slices.Contains(strings.Fields(scope), "openid") {
		return refusal(400, "invalid_scope")
	}
	a := api.Ask{Flow: 2, Client: c.Id, Scope: scope}
	for _, name := range []string{"login_hint_token", "id_token_hint"} {
		if v, once := r.one(name); !once || v != "" {
			return refusal(400, "invalid_request")
		}
	}
	var once bool
	if a.Subject, once = r.one("login_hint"); !once || a.Subject == "" {
		return refusal(400, "invalid_request")
	}
	if !regexp.MustCompile(`^[ -~]{1,64}$`).MatchString(a.Subject) {
		return refusal(400, "unknown_user_id")
	}
	if a.Message, once = r.one("binding_message"); !once {
		return refusal(400, "invalid_request")
	}
	if !regexp.MustCompile(`^[ -~]{0,128}$`).MatchString(a.Message) {
		return refusal(400, "invalid_binding_message")
	}
	life, once := r.one("requested_expiry")
	n, in := number(life, 3600)
	if !once || life != "" && !in {
		return refusal(400, "invalid_request")
	}
	a.Life = n
	if c.Ping {
		a.Flow = 3
		if a.Notify, once = r.one("client_notification_token"); !once || !regexp.MustCompile(`^[!-~]{1,128}$`).MatchString(a.Notify) {
			return refusal(400, "invalid_request")
		}
	}
	m, err := r.s.e.Ask(a, codes.NewSource(r.draws))
	if err != api.OK {
		return refusal(500, "server_error")
	}
	return sent(200, object("auth_req_id", quote(m.Code), "expires_in", fmt.Sprint(m.Life), "interval", fmt.Sprint(m.Interval)))
}

// number is the one that s writes, and whether it is from 1 to most.
func number(s string, most uint64) (uint64, bool) {
	if !regexp.MustCompile(`^[1-9][0-9]*$`).MatchString(s) {
		return 0, false
	}
	n, _ := new(big.Int).SetString(s, 10)
	if n.Cmp(new(big.Int).SetUint64(most)) > 0 {
		return 0, false
	}
	return n.Uint64(), true
}

func (r *said) token() string {
	c, no := r.client()
	if no != "" {
		return no
	}
	kind, once := r.one("grant_type")
	if !once || kind == "" {
		return refusal(400, "invalid_request")
	}
	of, there := map[string]struct {
		grant int
		name  string
	}{deviceType: {1, "device_code"}, cibaType: {2, "auth_req_id"}}[kind]
	if !there {
		return refusal(400, "unsupported_grant_type")
	}
	code, once := r.one(of.name)
	if !once || code == "" {
		return refusal(400, "invalid_request")
	}
	if c.Grants != of.grant && c.Grants != 3 {
		return refusal(400, "unauthorized_client")
	}
	i, err := r.s.e.Poll(c.Id, of.grant, code)
	if why, named := map[api.Errno]string{144: "invalid_grant", 143: "expired_token", 142: "access_denied", 141: "slow_down", 140: "authorization_pending"}[err]; named {
		return refusal(400, why)
	}
	if err != api.OK {
		return refusal(500, "server_error")
	}
	said := object("iss", quote(r.s.c.Issuer), "sub", quote(i.Subject), "client_id", quote(i.Client), "scope", quote(i.Scope), "jti", quote(fmt.Sprint(i.Number)), "iat", fmt.Sprint(i.Issued), "exp", fmt.Sprint(i.Expires))
	return sent(200, object("access_token", quote(signed(r.s.c.Keys[0], said)), "token_type", quote("Bearer"), "expires_in", fmt.Sprint(i.Expires-i.Issued), "scope", quote(i.Scope)))
}

func (r *said) introspect() string {
	c, no := r.client()
	if no != "" {
		return no
	}
	if c.Secret == "" {
		return refusal(400, "unauthorized_client")
	}
	text, once := r.one("token")
	if !once || text == "" {
		return refusal(400, "invalid_request")
	}
	t, err := token.Verify(r.s.c.Keys, text, r.s.e.Now())
	if err != api.OK {
		return sent(200, inactive)
	}
	return sent(200, object("active", "true", "scope", quote(t.Scope), "client_id", quote(t.Client), "sub", quote(t.Subject), "iss", quote(t.Issuer), "jti", quote(t.Id), "iat", fmt.Sprint(t.Issued), "exp", fmt.Sprint(t.Expires), "token_type", quote("Bearer")))
}

func (r *said) verify() string {
	name, no := r.subject()
	if no != "" {
		return no
	}
	code, once := r.one("user_code")
	if !once || code == "" {
		return refusal(400, "invalid_request")
	}
	s, err := r.s.e.Look(name, code)
	switch err {
	case 80:
		return refusal(429, "too_many_attempts")
	case 145:
		return refusal(404, "unknown_user_code")
	case 0:
		return sent(200, object("client_id", quote(s.Client), "scope", quote(s.Scope), "binding_message", quote(s.Message)))
	}
	return refusal(500, "server_error")
}

func (r *said) waiting() string {
	name, no := r.subject()
	if no != "" {
		return no
	}
	var l []string
	for _, s := range r.s.e.Waiting(name) {
		if len(l) < 16 {
			l = append(l, object("request", fmt.Sprint(s.Number), "client_id", quote(s.Client), "scope", quote(s.Scope), "binding_message", quote(s.Message)))
		}
	}
	return sent(200, object("requests", "["+strings.Join(l, ",")+"]"))
}

func (r *said) decide() string {
	name, no := r.subject()
	if no != "" {
		return no
	}
	var d api.Decision
	var one [4]bool
	var decision, number64 string
	decision, one[0] = r.one("decision")
	d.Typed, one[1] = r.one("user_code")
	number64, one[2] = r.one("request")
	d.Message, one[3] = r.one("binding_message")
	if one != [4]bool{true, true, true, true} || decision != "approve" && decision != "deny" || (d.Typed == "") == (number64 == "") {
		return refusal(400, "invalid_request")
	}
	d.Yes = decision == "approve"
	if number64 != "" {
		var in bool
		if d.Number, in = number(number64, last); !in {
			return refusal(400, "invalid_request")
		}
	}
	err := r.s.e.Decide(name, d)
	if err == api.OK {
		return sent(200, object("decided", quote(decision)))
	}
	if f, named := map[api.Errno]struct {
		status int
		why    string
	}{80: {429, "too_many_attempts"}, 145: {404, "unknown_user_code"}, 7: {404, "unknown_request"}, 143: {400, "expired_request"}, 146: {400, "already_decided"}, 147: {400, "invalid_binding_message"}}[err]; named {
		return refusal(f.status, f.why)
	}
	return refusal(500, "server_error")
}

// drawer draws requests that hang on what was answered so far.
type drawer struct {
	*rand.Rand
	codes, users, tokens []string
	owners               map[string]string // of codes
	n                    int
	before               string // the request ahead of this one
}

// of is one of l; mostly one of the last ones.
func (r *drawer) of(l ...string) string {
	if len(l) == 0 {
		return "x"
	}
	if len(l) > 6 && r.Intn(4) > 0 {
		l = l[len(l)-6:]
	}
	return l[r.Intn(len(l))]
}

// rare is s, but now and then another.
func (r *drawer) rare(s string, others ...string) string {
	if r.Intn(25) == 0 {
		return r.of(others...)
	}
	return s
}

// who is a client, by its header or its part of a form.
func (r *drawer) who(ids ...string) (string, string) {
	id := r.rare(r.of(ids...), "tv", "till", "box", "both", "open", "set", "no")
	secret := r.rare(map[string]string{"till": "t+:%2F", "box": "s", "both": "x", "set": "y"}[id], "s", "x", "")
	if secret == "" {
		return "", "&client_id=" + id
	}
	if r.Intn(3) == 0 {
		return "", "&client_id=" + id + "&client_secret=" + secret
	}
	return r.rare(basic(id, secret), "", basic(id, "")), r.rare("", "&client_id="+id, "&client_id=tv", "&client_secret=s", "&client_id=till&client_id=till")
}

func (r *drawer) name() string {
	return user(r.rare(r.of("ann", "bob"), "", long(65), "\"eve\\ ", "ann\r\nuser: bob"))
}

// spare is a parameter that is mostly not there.
func (r *drawer) spare(name string, values ...string) string {
	if r.Intn(3) > 0 {
		return ""
	}
	return "&" + name + "=" + r.of(values...) + r.rare("", "&"+name+"=")
}

func (r *drawer) request() string {
	typed := func() string { return r.rare(r.of(r.users...), "x", "BCDFGHJK", "") }
	switch r.Intn(13) {
	case 0, 1:
		head, form := r.who("tv", "tv", "both", "open", "set")
		return post(r.rare("/device_authorization", "/device_authorization?", "/device_authorization?a"), r.spare("scope", "read", "openid", "write+read", "pay", "", "openid")+form, head)
	case 2, 3:
		head, form := r.who("till", "box", "box", "both", "set")
		return post("/bc-authorize", r.rare(r.of(forAnn, forAnn, "login_hint=ann", "scope=openid&login_hint=bob"), "scope=openid&login_hint=%22%5c", "scope=openid", "scope=pay", "login_hint="+long(65), "login_hint=a%7f")+
			r.rare(tok, "", tok+tok, "&client_notification_token=a+b")+r.spare("binding_message", "42", "42", "42", "%22", "%7f", long(129))+r.spare("requested_expiry", "1", "30", "90", "3600", "0", "3601", "09")+
			r.rare("", "&login_hint_token=x", "&id_token_hint=x", "&id_token_hint=&id_token_hint=")+form, head)
	case 4, 5, 6:
		code := r.of(r.codes...)
		head, form := r.who(r.owners[code])
		kind, name := deviceType, "device_code"
		if len(code) == 32 {
			kind, name = cibaType, "auth_req_id"
		}
		return post("/token", "grant_type="+r.rare(kind, "x", "", deviceType, cibaType)+"&"+r.rare(name, "device_code", "auth_req_id", "code")+"="+r.rare(code, "x", "")+form+r.rare("", "&grant_type=x", "&"+name+"=x"), head)
	case 7:
		head, form := r.who("till", "box", "both", "tv")
		return post("/introspect", "token="+r.rare(r.of(r.tokens...), "x", "", "a.b.c")+r.rare("", "&token=x")+form, head)
	case 8:
		return get("/verify?"+r.rare("user_code="+typed(), "", "user_code=a&user_code=b", "%"), r.rare(r.name(), ""))
	case 9:
		return get(r.rare("/waiting", "/waiting/", "/waiting?a=%", "/"), r.rare(r.name(), ""))
	case 10, 11:
		which := "user_code=" + typed()
		if r.Intn(2) == 0 {
			which = "request=" + r.rare(fmt.Sprint(max(0, r.n-r.Intn(9))), "0", "01", "18446744073709551615", "18446744073709551616", "") + r.spare("binding_message", "42", "42", "42", "%22", "")
		}
		return post("/decide", which+"&decision="+r.rare(r.of("approve", "deny"), "maybe", "", "approve&decision=approve")+r.rare("", "&user_code=x", "&request=1", "&request=&request="), r.rare(r.name(), ""))
	}
	return get(r.rare("/.well-known/oauth-authorization-server", "/.well-known/oauth-authorization-server?%", "/token", "/decide"))
}

// learn keeps what an answer gives, to the client that asked last.
func (r *drawer) learn(response, owner string) {
	for _, m := range regexp.MustCompile(`"(device_code|auth_req_id|user_code|access_token)":"([^"]*)"`).FindAllStringSubmatch(response, -1) {
		switch m[1] {
		case "user_code":
			r.users = append(r.users, m[2])
		case "access_token":
			r.tokens = append(r.tokens, m[2])
		default:
			r.codes = append(r.codes, m[2])
			r.owners[m[2]] = owner
			r.n++
		}
	}
}

// P16.2 to P16.11: every response is, byte for byte, that of the slow way, and so are the rows.
func TestSlow(t *testing.T) {
	tally := map[string]int{}
	for seed := range 16 {
		r := &drawer{Rand: rand.New(rand.NewSource(int64(seed))), owners: map[string]string{}}
		w := on(t, config(), 14)
		d, _ := disk.New(nil, roomy)
		e, err := grant.Open(d, 14)
		if err != api.OK {
			t.Fatal(err)
		}
		c := config()
		l, _, _ := client.Parse(c.Registry)
		s := &slow{e: e, c: c, clients: l}
		for range 900 {
			held(t, w, s, r, tally)
		}
	}
	for _, want := range []string{
		"200", "invalid_request 400", "not_found 404", "invalid_request 405", "invalid_client 401", "login_required 401", "unauthorized_client 400", "invalid_scope 400", "unknown_user_id 400", "invalid_binding_message 400",
		"unsupported_grant_type 400", "invalid_grant 400", "expired_token 400", "access_denied 400", "slow_down 400", "authorization_pending 400", "too_many_attempts 429", "unknown_user_code 404", "unknown_request 404",
		"expired_request 400", "already_decided 400", "server_error 500", "active true", "active false", "token", "ping",
	} {
		if tally[want] < 5 {
			t.Errorf("%s: %d times alone", want, tally[want])
		}
	}
}

// held does one thing to both.
func held(t *testing.T, w *world, s *slow, r *drawer, tally map[string]int) {
	t.Helper()
	if r.Intn(9) == 0 {
		now := w.e.Now() + uint64([]int{1, 3, 5, 10, 40, 130, 700}[min(r.Intn(9), r.Intn(9), 6)])
		w.tick(now)
		s.e.Tick(now)
		for _, p := range w.e.Pings() {
			if got, want := w.f.Notify(p), pinged("b", "/cb", p.Notify, object("auth_req_id", quote(p.Code))); got != want {
				t.Fatalf("Notify(%+v): %q, not %q", p, got, want)
			}
			outcome := r.Intn(3)
			w.e.Pinged(p.Number, outcome)
			s.e.Pinged(p.Number, outcome)
			tally["ping"]++
		}
		return
	}
	raw := r.request()
	switch r.Intn(12) {
	case 0:
		raw = bent(r.Rand, raw)
	case 1, 2:
		raw = r.before
	}
	r.before = raw
	draws := make([]byte, 60-r.rareInt(60))
	r.Read(draws)
	want := s.serve(raw, slices.Clone(draws))
	w.gets(raw, want, draws...)
	if !slices.Equal(w.e.All(), s.e.All()) {
		t.Fatalf("%q: the rows are\n%v, not\n%v", raw, w.e.All(), s.e.All())
	}
	owner := ""
	if l := w.e.All(); len(l) > 0 {
		owner = l[len(l)-1].Client
	}
	r.learn(want, owner)
	count(tally, want)
}

// rareInt is mostly 0.
func (r *drawer) rareInt(n int) int {
	if r.Intn(30) > 0 {
		return 0
	}
	return r.Intn(n)
}

func count(tally map[string]int, response string) {
	p, _, _ := http.ParseResponse(response)
	why := regexp.MustCompile(`^{"error":"(.*)"}$`).FindStringSubmatch(p.Body)
	switch {
	case why != nil:
		tally[why[1]+" "+fmt.Sprint(p.Status)]++
	case strings.HasPrefix(p.Body, `{"active":true`):
		tally["active true"]++
	case p.Body == inactive:
		tally["active false"]++
	case strings.Contains(p.Body, "access_token"):
		tally["token"]++
	}
	tally[fmt.Sprint(p.Status)]++
}
