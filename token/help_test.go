package token_test

import (
	"crypto/hmac"
	"crypto/sha256"
	"encoding/base64"
	"fmt"
	"math/rand"
	"strconv"
	"strings"
	"testing"
	"unicode/utf16"

	"wicket/api"
	"wicket/token"
)

const (
	plainHead = `{"alg":"HS256","kid":"k1","typ":"JWT"}`
	plainBody = `{"iss":"https://w","sub":"ann","client_id":"tv","scope":"read","jti":"7","iat":100,"exp":160}`
)

var (
	one   = api.Key{Kid: "k1", Secret: "0123456789abcdef"}
	other = api.Key{Kid: "k2", Secret: "another secret of it"}
)

func plain() api.Claims {
	return api.Claims{Issuer: "https://w", Subject: "ann", Client: "tv", Scope: "read", Id: "7", Issued: 100, Expires: 160}
}

// ring is so many keys, no two alike, with the Kids r0, r1 and so on.
func ring(n int) []api.Key {
	var keys []api.Key
	for i := range n {
		keys = append(keys, api.Key{Kid: "r" + strconv.Itoa(i), Secret: fmt.Sprintf("the secret of %06d", i)})
	}
	return keys
}

// coded is the Base64 by the library.
func coded(s string) string { return base64.RawURLEncoding.EncodeToString([]byte(s)) }

// macOf is the signature by the library.
func macOf(secret, ahead string) string {
	m := hmac.New(sha256.New, []byte(secret))
	m.Write([]byte(ahead))
	return coded(string(m.Sum(nil)))
}

// sealed is what is ahead of the second dot, and its signature.
func sealed(k api.Key, ahead string) string { return ahead + "." + macOf(k.Secret, ahead) }

// made is a token over any head and claims.
func made(k api.Key, head, body string) string { return sealed(k, coded(head)+"."+coded(body)) }

// quoted is a text as it stands in JSON, by the words of chapter 4.
func quoted(s string) string {
	var out strings.Builder
	for _, r := range s {
		switch at := strings.IndexRune("\"\\\b\t\n\f\r", r); {
		case at >= 0:
			out.WriteString(`\` + `"\btnfr`[at:at+1])
		case r >= 32 && r <= 126:
			out.WriteRune(r)
		case r <= 0xffff:
			fmt.Fprintf(&out, `\u%04x`, r)
		default:
			high, low := utf16.EncodeRune(r)
			fmt.Fprintf(&out, `\u%04x\u%04x`, high, low)
		}
	}
	return `"` + out.String() + `"`
}

func headText(kid string) string { return `{"alg":"HS256","kid":` + quoted(kid) + `,"typ":"JWT"}` }

func bodyText(c api.Claims) string {
	return fmt.Sprintf(`{"iss":%s,"sub":%s,"client_id":%s,"scope":%s,"jti":%s,"iat":%d,"exp":%d}`, quoted(c.Issuer), quoted(c.Subject), quoted(c.Client), quoted(c.Scope), quoted(c.Id), c.Issued, c.Expires)
}

// written is the token of these claims, made without the package.
func written(k api.Key, c api.Claims) string { return made(k, headText(k.Kid), bodyText(c)) }

func signs(t *testing.T, k api.Key, c api.Claims) string {
	t.Helper()
	s, e := token.Sign(k, c)
	if want := written(k, c); s != want || e != api.OK {
		t.Fatalf("Sign(%.60v, %.60v): %.200s %d, not %.200s", k, c, s, e, want)
	}
	return s
}

func isNotSigned(t *testing.T, what string, k api.Key, c api.Claims, fault api.Errno) {
	t.Helper()
	if s, e := token.Sign(k, c); s != "" || e != fault {
		t.Errorf("%s: Sign: %.60q %d, not %d", what, s, e, fault)
	}
}

func isTaken(t *testing.T, what string, keys []api.Key, text string, now uint64, want api.Claims) {
	t.Helper()
	if c, e := token.Verify(keys, text, now); c != want || e != api.OK {
		t.Errorf("%s: Verify(%.200s, %d): %.60v %d, not %.60v", what, text, now, c, e, want)
	}
}

func isRefused(t *testing.T, what string, keys []api.Key, text string, now uint64, fault api.Errno) {
	t.Helper()
	if c, e := token.Verify(keys, text, now); c != (api.Claims{}) || e != fault {
		t.Errorf("%s: Verify(%.200s, %d): %.60v %d, not %d", what, text, now, c, e, fault)
	}
}

func isRead(t *testing.T, what, text, kid string, want api.Claims) {
	t.Helper()
	if k, c, e := token.Read(text); k != kid || c != want || e != api.OK {
		t.Errorf("%s: Read(%.200s): %q %.60v %d, not %q %.60v", what, text, k, c, e, kid, want)
	}
}

func isNotRead(t *testing.T, what, text string, fault api.Errno) {
	t.Helper()
	if k, c, e := token.Read(text); k != "" || c != (api.Claims{}) || e != fault {
		t.Errorf("%s: Read(%.200s): %q %.60v %d, not %d", what, text, k, c, e, fault)
	}
}

// with is plain claims, one of whose texts (by its number) is another.
func with(i int, text string) api.Claims {
	c := plain()
	*[]*string{&c.Issuer, &c.Subject, &c.Client, &c.Scope, &c.Id}[i] = text
	return c
}

// drawnText is a clean text of at most n bytes, and at least least.
func drawnText(r *rand.Rand, least, n int) string {
	var b strings.Builder
	want := least + r.Intn(n-least+1)
	for b.Len() < want {
		var c rune
		switch r.Intn(6) {
		case 0:
			c = rune(r.Intn(128))
		case 1:
			c = []rune{0, '"', '\\', '/', 0x7f, 0x80, 0x7ff, 0x800, 0xd7ff, 0xe000, 0xffff, 0x10000, 0x10ffff}[r.Intn(13)]
		default:
			c = rune('a' + r.Intn(26))
		}
		if b.Len()+len(string(c)) <= want {
			b.WriteRune(c)
		}
	}
	return b.String()
}

func drawnClaims(r *rand.Rand) api.Claims {
	n := []int{1, 5, 40, 256}[r.Intn(4)]
	c := api.Claims{Issuer: drawnText(r, 1, n), Subject: drawnText(r, 1, n), Client: drawnText(r, 1, n), Scope: drawnText(r, 0, n), Id: drawnText(r, 1, n)}
	c.Issued = r.Uint64() >> r.Intn(64)
	c.Expires = r.Uint64() >> r.Intn(64)
	if c.Issued > c.Expires {
		c.Issued, c.Expires = c.Expires, c.Issued
	}
	if c.Issued == c.Expires {
		c.Issued, c.Expires = 0, 1
	}
	return c
}

func drawnKey(r *rand.Rand) api.Key {
	const kidBytes = "ABCXYZabcxyz0189-_."
	kid := make([]byte, 1+r.Intn(32))
	for i := range kid {
		kid[i] = kidBytes[r.Intn(len(kidBytes))]
	}
	secret := make([]byte, 16+r.Intn(241))
	r.Read(secret)
	return api.Key{Kid: string(kid), Secret: string(secret)}
}
