package token_test

import (
	"encoding/base64"
	"encoding/json"
	"math/rand"
	"strconv"
	"strings"
	"testing"
	"unicode/utf8"

	"wicket/api"
	"wicket/jtext"
	"wicket/token"
)

// slowDecoded is the text whose Base64 is s; the library passes over ends of lines, so the way back is asked too.
func slowDecoded(s string) (string, bool) {
	p, err := base64.RawURLEncoding.Strict().DecodeString(s)
	return string(p), err == nil && coded(string(p)) == s
}

// slowMembers are the members of the object that a part says, by the library; jtext says whether it is taken at all.
func slowMembers(s string) (map[string]any, bool) {
	text, ok := slowDecoded(s)
	if _, e, _ := jtext.Parse(text); !ok || e != api.OK {
		return nil, false
	}
	d := json.NewDecoder(strings.NewReader(text))
	d.UseNumber()
	var v any
	if d.Decode(&v) != nil {
		return nil, false
	}
	members, ok := v.(map[string]any)
	return members, ok
}

func slowHead(s string) (string, api.Errno) {
	members, ok := slowMembers(s)
	alg, isText := members["alg"].(string)
	if !ok || !isText {
		return "", api.ErrHead
	}
	if alg != "HS256" {
		return "", api.ErrAlg
	}
	kid, isText := members["kid"].(string)
	typ, typed := members["typ"]
	_, crit := members["crit"]
	if !isText || typed && typ != any("JWT") || crit {
		return "", api.ErrHead
	}
	return kid, api.OK
}

func slowClaims(s string) (api.Claims, api.Errno) {
	members, ok := slowMembers(s)
	if !ok {
		return api.Claims{}, api.ErrClaims
	}
	texts := map[string]string{}
	for _, name := range []string{"iss", "sub", "client_id", "scope", "jti"} {
		text, ok := members[name].(string)
		if !ok || text == "" && name != "scope" || len(text) > 256 || !utf8.ValidString(text) {
			return api.Claims{}, api.ErrClaims
		}
		texts[name] = text
	}
	numbers := map[string]uint64{}
	for _, name := range []string{"iat", "exp"} {
		literal, _ := members[name].(json.Number)
		n, err := strconv.ParseUint(string(literal), 10, 64)
		if err != nil || strconv.FormatUint(n, 10) != string(literal) {
			return api.Claims{}, api.ErrClaims
		}
		numbers[name] = n
	}
	if numbers["iat"] >= numbers["exp"] {
		return api.Claims{}, api.ErrClaims
	}
	return api.Claims{Issuer: texts["iss"], Subject: texts["sub"], Client: texts["client_id"], Scope: texts["scope"], Id: texts["jti"], Issued: numbers["iat"], Expires: numbers["exp"]}, api.OK
}

// slowRead is Read by the chapter's words.
func slowRead(text string) (string, api.Claims, api.Errno) {
	if len(text) > 8192 {
		return "", api.Claims{}, api.ErrLong
	}
	p := strings.Split(text, ".")
	if len(p) != 3 {
		return "", api.Claims{}, api.ErrParts
	}
	kid, e := slowHead(p[0])
	if e != api.OK {
		return "", api.Claims{}, e
	}
	c, e := slowClaims(p[1])
	if e != api.OK {
		return "", api.Claims{}, e
	}
	return kid, c, api.OK
}

// slowVerify is Verify by the chapter's words, of keys that are a ring.
func slowVerify(keys []api.Key, text string, now uint64) (api.Claims, api.Errno) {
	if _, _, e := slowRead(text); e != api.OK && e != api.ErrClaims {
		return api.Claims{}, e
	}
	p := strings.Split(text, ".")
	kid, _ := slowHead(p[0])
	for _, k := range keys {
		if k.Kid != kid {
			continue
		}
		if p[2] != macOf(k.Secret, p[0]+"."+p[1]) {
			return api.Claims{}, api.ErrSign
		}
		c, e := slowClaims(p[1])
		switch {
		case e != api.OK:
			return api.Claims{}, e
		case now < c.Issued:
			return api.Claims{}, api.ErrEarly
		case now >= c.Expires:
			return api.Claims{}, api.ErrExpired
		}
		return c, api.OK
	}
	return api.Claims{}, api.ErrKid
}

// drawnObject is an object's text with some of these members, most of them once, in an order that is drawn, with blanks.
func drawnObject(r *rand.Rand, members [][]string) string {
	var list []string
	for _, m := range members {
		switch r.Intn(30) {
		case 0:
		case 1:
			list = append(list, m[1+r.Intn(len(m)-1)])
		case 2:
			list = append(list, m[0], m[r.Intn(len(m))])
		default:
			list = append(list, m[0])
		}
	}
	if r.Intn(2) == 0 {
		r.Shuffle(len(list), func(i, j int) { list[i], list[j] = list[j], list[i] })
	}
	blank := []string{"", "", " ", "\n\t"}[r.Intn(4)]
	return blank + "{" + blank + strings.Join(list, blank+","+blank) + blank + "}"
}

func drawnHead(r *rand.Rand) string {
	return drawnObject(r, [][]string{
		{`"alg":"HS256"`, `"alg":"none"`, `"alg":7`, `"alg":"HS25\u0036"`, `"Alg":"HS256"`},
		{`"kid":"k1"`, `"kid":"k2"`, `"kid":"k3"`, `"kid":null`, `"kid":""`, `"kid" : "k\u0031"`},
		{`"typ":"JWT"`, `"typ":"jwt"`, `"typ":null`, `"typ":["JWT"]`},
		{`"x":{"crit":[1,2]}`, `"crit":[]`, `"crit":null`, `"":"\ud83d\ude00"`},
	})
}

func drawnBody(r *rand.Rand) string {
	wide := strings.Repeat("w", 255+r.Intn(3))
	text := func(name string) []string {
		return []string{`"` + name + `":"ann"`, `"` + name + `":""`, `"` + name + `":"` + wide + `"`, `"` + name + `":"\u00e9é\n"`, `"` + name + `":7`, `"` + name + `":null`, `"` + name + `":["ann"]`}
	}
	return drawnObject(r, [][]string{
		text("iss"), text("sub"), text("client_id"), text("scope"), text("jti"),
		{`"iat":100`, `"iat":0`, `"iat":160`, `"iat":1e2`, `"iat":-1`, `"iat":"100"`, `"iat":18446744073709551615`},
		{`"exp":160`, `"exp":100`, `"exp":101`, `"exp":160.0`, `"exp":18446744073709551615`, `"exp":18446744073709551616`, `"exp":null`},
		{`"aud":[{}]`, `"nbf":-5e-5`, `"exp ":1`},
	})
}

// spoilt is a text with one byte changed, put in or taken out.
func spoilt(r *rand.Rand, text string) string {
	const bytes = "A_-.=+/ \nzQ\x00\xff"
	at := r.Intn(len(text))
	b := bytes[r.Intn(len(bytes))]
	switch r.Intn(4) {
	case 0:
		return text[:at] + string([]byte{b}) + text[at+1:]
	case 1:
		return text[:at] + string([]byte{b}) + text[at:]
	case 2:
		return text[:at] + text[at+1:]
	}
	return text[:at]
}

// drawnToken is one that is right, or nearly so: with a wrong member, another's signature, a byte that was changed ahead of the signing or behind it.
func drawnToken(r *rand.Rand) string {
	ahead := coded(drawnHead(r)) + "." + coded(drawnBody(r))
	if r.Intn(6) == 0 {
		ahead = spoilt(r, ahead)
	}
	s := sealed([]api.Key{one, one, one, other}[r.Intn(4)], ahead)
	if r.Intn(6) == 0 {
		s = spoilt(r, s)
	}
	if r.Intn(50) == 0 {
		s += strings.Repeat("x", 7700+r.Intn(700))
	}
	return s
}

// P10.2 and P10.3: drawn tokens against the slow way.
func TestAgainstSlow(t *testing.T) {
	r := rand.New(rand.NewSource(10))
	verified, read := map[api.Errno]int{}, map[api.Errno]int{}
	rings := [][]api.Key{both, {one, other}, {one}, {other}, append(ring(14), both...), nil}
	for range 60000 {
		keys, text := rings[r.Intn(len(rings))], drawnToken(r)
		now := []uint64{0, 99, 100, 101, 130, 159, 160, 1<<64 - 1}[r.Intn(8)]
		c, e := slowVerify(keys, text, now)
		if got, f := token.Verify(keys, text, now); got != c || f != e {
			t.Fatalf("Verify(%q, %d): %v %d, not %v %d", text, now, got, f, c, e)
		}
		kid, d, f := slowRead(text)
		if k, got, g := token.Read(text); k != kid || got != d || g != f {
			t.Fatalf("Read(%q): %q %v %d, not %q %v %d", text, k, got, g, kid, d, f)
		}
		verified[e]++
		read[f]++
	}
	for _, e := range []api.Errno{api.OK, api.ErrLong, api.ErrParts, api.ErrHead, api.ErrAlg, api.ErrKid, api.ErrSign, api.ErrClaims, api.ErrEarly, api.ErrExpired} {
		if verified[e] < 200 {
			t.Errorf("%d was told %d times by Verify", e, verified[e])
		}
	}
	for _, e := range []api.Errno{api.OK, api.ErrLong, api.ErrParts, api.ErrHead, api.ErrAlg, api.ErrClaims} {
		if read[e] < 200 {
			t.Errorf("%d was told %d times by Read", e, read[e])
		}
	}
}

// Rule 1: whatever bytes come, there is an answer, the slow way's.
func TestAnyBytes(t *testing.T) {
	r := rand.New(rand.NewSource(11))
	for range 20000 {
		p := make([]byte, r.Intn(60))
		for i := range p {
			p[i] = "..AZe_-=\"{}\x00\xff"[r.Intn(13)]
		}
		text := string(p)
		c, e := slowVerify(both, text, 100)
		if got, f := token.Verify(both, text, 100); got != c || f != e {
			t.Fatalf("Verify(%q): %v %d, not %v %d", text, got, f, c, e)
		}
		_, _, e = slowRead(text)
		if _, _, f := token.Read(text); f != e {
			t.Fatalf("Read(%q): %d, not %d", text, f, e)
		}
	}
}
