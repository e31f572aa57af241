package endpoint_test

import (
	"crypto/hmac"
	"crypto/sha256"
	"encoding/base64"
	"fmt"
	"strings"
	"testing"

	"wicket/api"
	"wicket/http"
)

// signed is a token with these claims, made without the program.
func signed(k api.Key, claims string) string {
	b := base64.RawURLEncoding
	ahead := b.EncodeToString([]byte(`{"alg":"HS256","kid":"`+k.Kid+`","typ":"JWT"}`)) + "." + b.EncodeToString([]byte(claims))
	m := hmac.New(sha256.New, []byte(k.Secret))
	m.Write([]byte(ahead))
	return ahead + "." + b.EncodeToString(m.Sum(nil))
}

func claims(issuer, subject, client, scope, id string, issued, expires uint64) string {
	return fmt.Sprintf(`{"iss":"%s","sub":"%s","client_id":"%s","scope":"%s","jti":"%s","iat":%d,"exp":%d}`, issuer, subject, client, scope, id, issued, expires)
}

// bearer is the answer that brings a token.
func bearer(token, scope string) string {
	return `{"access_token":"` + token + `","token_type":"Bearer","expires_in":3600,"scope":"` + scope + `"}`
}

// decided: the subject decides so.
func (w *world) decided(name, form, how string) {
	w.t.Helper()
	w.grants(post("/decide", form+"&decision="+how, user(name)), `{"decided":"`+how+`"}`)
}

func byNumber(a asked, message string) string {
	return "request=" + decimal(a.number) + "&binding_message=" + message
}

// P16.5: a device's token: who it is for, what it is good for, how long.
func TestTokenOfDevice(t *testing.T) {
	w := begun(t)
	w.tick(1000)
	w.device()
	a := w.device()
	w.decided("bob x", "user_code="+a.user, "approve")
	w.tick(1010)
	token := signed(config().Keys[0], claims("https://w", "bob x", "tv", "read write", "2", 1010, 4610))
	w.grants(pollDevice(a.code), bearer(token, "read write"))
	w.refuses(pollDevice(a.code), 400, "invalid_grant")
	if p := w.row(2); p.Status != api.StatusTaken {
		t.Errorf("%+v", p)
	}
}

// P16.5: the tokens of those who asked for somebody.
func TestTokenOfCiba(t *testing.T) {
	w := begun(t)
	a, b := w.polled(), w.told()
	w.decided("ann", byNumber(a, "42"), "approve")
	w.decided("ann", byNumber(b, "7"), "approve")
	key := config().Keys[0]
	w.grants(pollCiba(till(), a.code), bearer(signed(key, claims("https://w", "ann", "till", "openid pay", "1", 0, 3600)), "openid pay"))
	w.grants(pollCiba(box(), b.code), bearer(signed(key, claims("https://w", "ann", "box", "openid pay", "2", 0, 3600)), "openid pay"))
	w.refuses(pollCiba(till(), a.code), 400, "invalid_grant")
}

// P16.5: texts with quotes come through, and an issuer of the greatest length; the first key signs.
func TestTokenTexts(t *testing.T) {
	c := with(issuer("https://" + long(248)))
	c.Registry = "id=a%22%5c&grants=device&scope=" + long(64)
	c.Keys = []api.Key{{Kid: long(32), Secret: strings.Repeat("\x00\xff", 128)}, {Kid: "k1", Secret: long(16)}}
	w := on(t, c, most)
	a := asked{1, codeOf(deviceDraws(1)[:32]), userOf(deviceDraws(1)[32:])}
	w.serve(post("/device_authorization", "client_id=a%22%5c"), deviceDraws(1)...)
	w.decided(`"`+long(62)+`\`, "user_code="+a.user, "approve")
	token := signed(c.Keys[0], claims(c.Issuer, `\"`+long(62)+`\\`, `a\"\\`, long(64), "1", 0, 3600))
	w.grants(post("/token", "client_id=a%22%5c&grant_type="+deviceType+"&device_code="+a.code), bearer(token, long(64)))
}

// P16.5: a token's number is the request's, however great, and its scope may be none.
func TestTokenNumber(t *testing.T) {
	w := on(t, with(clients("id=tv&grants=device")), most)
	if err, _ := w.e.Do(api.Change{Kind: api.ChangeMark, Mark: api.MarkNumber, Value: last - 1}); err != api.OK {
		t.Fatal(err)
	}
	w.serve(post("/device_authorization", "client_id=tv"), deviceDraws(1)...)
	w.decided("ann", "user_code="+userOf(deviceDraws(1)[32:]), "approve")
	w.grants(pollDevice(codeOf(deviceDraws(1)[:32])), bearer(signed(config().Keys[0], claims("https://w", "ann", "tv", "", "18446744073709551615", 0, 3600)), ""))
}

// P16.5: at the end of time a token is good for what is left.
func TestTokenLast(t *testing.T) {
	w := begun(t)
	w.tick(last - 10)
	a := w.device()
	w.decided("ann", "user_code="+a.user, "approve")
	w.tick(last - 1)
	token := signed(config().Keys[0], claims("https://w", "ann", "tv", "read write", "1", last-1, last))
	w.grants(pollDevice(a.code), `{"access_token":"`+token+`","token_type":"Bearer","expires_in":1,"scope":"read write"}`)
}

// P16.5: what a poll is answered, as the request stands.
func TestPolls(t *testing.T) {
	w := begun(t)
	a := w.device()
	w.refuses(pollDevice(a.code), 400, "authorization_pending")
	w.refuses(pollDevice(a.code), 400, "slow_down")
	w.tick(9)
	w.refuses(pollDevice(a.code), 400, "slow_down")
	w.tick(24)
	w.refuses(pollDevice(a.code), 400, "authorization_pending")
	if p := w.row(1); p.Interval != 15 || p.Polled != 24 || !p.Asked {
		t.Errorf("%+v", p)
	}
	w.decided("ann", "user_code="+a.user, "deny")
	w.refuses(pollDevice(a.code), 400, "access_denied")
	w.refuses(pollDevice(a.code), 400, "access_denied")
	b := w.told()
	w.decided("ann", byNumber(b, "7"), "approve")
	w.refuses(pollDevice(b.code), 400, "invalid_grant")
	w.refuses(pollCiba(till(), b.code), 400, "invalid_grant")
	w.refuses(pollCiba(both(), b.code), 400, "invalid_grant")
	w.tick(143)
	c := w.polled()
	w.tick(144)
	w.refuses(pollCiba(box(), b.code), 400, "expired_token")
	w.tick(263)
	w.refuses(pollCiba(till(), c.code), 400, "expired_token")
	w.tick(263 + 599)
	w.refuses(pollCiba(till(), c.code), 400, "expired_token")
	w.tick(263 + 600)
	w.refuses(pollCiba(till(), c.code), 400, "invalid_grant")
}

// P16.5: an approved request that is polled too soon is not given its token yet.
func TestPollsApprovedTooSoon(t *testing.T) {
	w := begun(t)
	a := w.told()
	w.refuses(pollCiba(box(), a.code), 400, "authorization_pending")
	w.decided("ann", byNumber(a, "7"), "approve")
	w.refuses(pollCiba(box(), a.code), 400, "slow_down")
	w.tick(10)
	if got := w.serve(pollCiba(box(), a.code)); !strings.Contains(got, `"access_token":"`) {
		t.Errorf("%q", got)
	}
}

// P16.5: the type of the grant is asked for first, and there are two.
func TestGrantType(t *testing.T) {
	w := begun(t)
	for _, form := range []string{"", "grant_type=", "grant_type=x&grant_type=x", "grant_type=&grant_type=", "device_code=x", "grant_type=" + deviceType + "&grant_type=" + deviceType + "&device_code=x"} {
		w.bad(post("/token", form+"&client_id=tv"))
		w.bad(post("/token", form, till()))
	}
	for _, s := range []string{"x", "device_code", "authorization_code", "client_credentials", "refresh_token", deviceType + "x", "x" + deviceType, deviceType[:len(deviceType)-1], strings.ToUpper(deviceType), cibaType + "+", cibaType[1:], "urn:ietf:params:oauth:grant-type:ciba", long(5000)} {
		for _, rest := range []string{"", "&device_code=x&auth_req_id=x", "&device_code=x&device_code=x&auth_req_id=x&auth_req_id=x"} {
			w.refuses(post("/token", "grant_type="+s+rest+"&client_id=tv"), 400, "unsupported_grant_type")
			w.refuses(post("/token", "grant_type="+s+rest, till()), 400, "unsupported_grant_type")
		}
	}
	w.refuses(post("/token", "client_id=tv&device_code=x&grant_type="+escaped(deviceType)), 400, "invalid_grant")
	w.refuses(post("/token", "auth_req_id=x&grant_type="+escaped(cibaType), till()), 400, "invalid_grant")
}

// P16.5: the code must be there under its own name, once, ahead of what the client may.
func TestGrantCode(t *testing.T) {
	w := begun(t)
	for _, c := range []struct{ kind, name, other string }{{deviceType, "device_code", "auth_req_id"}, {cibaType, "auth_req_id", "device_code"}} {
		for _, who := range []string{till(), both(), box()} {
			for _, form := range []string{"", "&" + c.name + "=", "&" + c.other + "=x", "&" + c.name + "=x&" + c.name + "=x", "&" + c.name + "=&" + c.name + "=", "&code=x", "&user_code=x"} {
				w.bad(post("/token", "grant_type="+c.kind+form, who))
				w.bad(post("/token", "client_id=tv&grant_type="+c.kind+form))
			}
		}
		w.refuses(post("/token", "grant_type="+c.kind+"&"+c.name+"=x&"+c.other+"=x&"+c.other+"=x", both()), 400, "invalid_grant")
	}
}

// P16.5: a client may only what its grants say.
func TestGrantOfClient(t *testing.T) {
	w := begun(t)
	a, b := w.device(), w.polled()
	w.refuses(post("/token", "client_id=tv&grant_type="+cibaType+"&auth_req_id="+b.code), 400, "unauthorized_client")
	w.refuses(post("/token", "client_id=tv&grant_type="+cibaType+"&auth_req_id=x"), 400, "unauthorized_client")
	w.refuses(pollCiba(set(), b.code), 400, "unauthorized_client")
	for _, who := range []string{till(), box()} {
		w.refuses(post("/token", "grant_type="+deviceType+"&device_code="+a.code, who), 400, "unauthorized_client")
	}
	for _, form := range []string{"grant_type=" + deviceType + "&device_code=" + a.code, "grant_type=" + cibaType + "&auth_req_id=" + b.code} {
		w.refuses(post("/token", form, both()), 400, "invalid_grant")
		w.refuses(post("/token", form+"&client_id=open"), 400, "invalid_grant")
	}
}

// P16.5: a code that nobody was given, or another than it was given as.
func TestGrantUnknown(t *testing.T) {
	w := begun(t)
	a := w.device()
	for _, s := range []string{"x", a.code[1:], a.code + "A", strings.ToLower(a.code), a.user, long(64), long(65), long(5000), "%00"} {
		w.refuses(pollDevice(s), 400, "invalid_grant")
	}
	w.refuses(post("/token", "grant_type="+cibaType+"&auth_req_id="+a.code, both()), 400, "invalid_grant")
	w.refuses(pollDevice(a.code), 400, "authorization_pending")
}

// tokenOf is the token that an answer brings.
func tokenOf(t *testing.T, response string) string {
	t.Helper()
	p, err, _ := http.ParseResponse(response)
	rest, ok := strings.CutPrefix(p.Body, `{"access_token":"`)
	token, _, more := strings.Cut(rest, `"`)
	if err != api.OK || !ok || !more {
		t.Fatalf("%q brings no token", response)
	}
	return token
}

func introspect(token string) string { return post("/introspect", "token="+token, till()) }

const inactive = `{"active":false}`

// P16.6: a token of this server, from its first second to its last.
func TestIntrospect(t *testing.T) {
	w := begun(t)
	w.tick(100)
	a := w.device()
	w.decided("ann", "user_code="+a.user, "approve")
	token := tokenOf(t, w.serve(pollDevice(a.code)))
	want := `{"active":true,"scope":"read write","client_id":"tv","sub":"ann","iss":"https://w","jti":"1","iat":100,"exp":3700,"token_type":"Bearer"}`
	for _, now := range []uint64{100, 101, 3699} {
		w.tick(now)
		w.grants(introspect(token), want)
		w.grants(post("/introspect", "token="+token, box()), want)
	}
	w.tick(3700)
	w.grants(introspect(token), inactive)
}

// P16.6: a token that any key of the ring has signed, from when on it is good; whoever issued it.
func TestIntrospectKeys(t *testing.T) {
	w := begun(t)
	w.tick(50)
	said := claims("i", "s", "c", "", "j", 50, 60)
	want := `{"active":true,"scope":"","client_id":"c","sub":"s","iss":"i","jti":"j","iat":50,"exp":60,"token_type":"Bearer"}`
	for _, k := range config().Keys {
		w.grants(introspect(signed(k, said)), want)
		w.grants(introspect(signed(api.Key{Kid: k.Kid, Secret: k.Secret + "x"}, said)), inactive)
		w.grants(introspect(signed(api.Key{Kid: "k2", Secret: k.Secret}, said)), inactive)
		w.grants(introspect(signed(k, claims("i", "s", "c", "", "j", 51, 60))), inactive)
		w.grants(introspect(signed(k, claims("i", "s", "c", "", "j", 40, 50))), inactive)
		w.grants(introspect(signed(k, claims("i", "s", "c", "", "j", 40, 51))), strings.Replace(strings.Replace(want, `"iat":50`, `"iat":40`, 1), `"exp":60`, `"exp":51`, 1))
		w.grants(introspect(signed(k, said)+"A"), inactive)
		w.grants(introspect(signed(k, "{}")), inactive)
	}
	w.grants(introspect(signed(config().Keys[0], claims("i", "é\\n", "\\u0001", "a b", "\\\"", 50, 60))),
		`{"active":true,"scope":"a b","client_id":"\u0001","sub":"\u00e9\n","iss":"i","jti":"\"","iat":50,"exp":60,"token_type":"Bearer"}`)
}

// P16.6: what is no token is not active; nothing more is told of it.
func TestIntrospectOthers(t *testing.T) {
	w := begun(t)
	for _, s := range []string{"x", "a.b", "..", "a.b.c", "%00", "+", "eyJ.e30.x", long(8192), long(8193), long(16000)} {
		w.grants(introspect(s), inactive)
	}
}

// P16.6: the client must have a secret, and then there must be a token, once.
func TestIntrospectClient(t *testing.T) {
	w := begun(t)
	for _, form := range []string{"client_id=tv", "client_id=open"} {
		for _, rest := range []string{"", "&token=x", "&token=x&token=x"} {
			w.refuses(post("/introspect", form+rest), 400, "unauthorized_client")
		}
	}
	for _, form := range []string{"", "token=", "token=x&token=x", "token=&token=", "access_token=x", "token_type_hint=x"} {
		for _, who := range []string{till(), box(), both()} {
			w.bad(post("/introspect", form, who))
		}
	}
	w.grants(post("/introspect", "client_id=box&client_secret=s&token=x&token_type_hint=a&token_type_hint=b"), inactive)
}

// P16.7: what the server tells of itself, whoever asks.
func TestMetadata(t *testing.T) {
	const path = "/.well-known/oauth-authorization-server"
	for _, s := range []string{"https://w", "https://a.example/b", "https://" + long(248), "https://'&<>"} {
		w := on(t, with(issuer(s)), most)
		w.grants(get(path), metadata(s))
		w.grants(get(path+"?", user("ann"), box()), metadata(s))
		w.grants(get(path+"?a=1&a=1"), metadata(s))
		w.bad(get(path + "?a=%"))
	}
}
