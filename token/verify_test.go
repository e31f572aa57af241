package token_test

import (
	"encoding/base64"
	"encoding/hex"
	"math"
	"strconv"
	"strings"
	"testing"

	"wicket/api"
)

var both = []api.Key{other, one}

// P10.2, step 6, example 3: the seconds at the edges.
func TestVerifyTimes(t *testing.T) {
	s := signs(t, one, plain())
	for _, now := range []uint64{0, 1, 98, 99} {
		isRefused(t, "early", both, s, now, api.ErrEarly)
	}
	for _, now := range []uint64{100, 101, 130, 158, 159} {
		isTaken(t, "in time", both, s, now, plain())
	}
	for _, now := range []uint64{160, 161, 1 << 40, 1 << 63, math.MaxUint64} {
		isRefused(t, "over", both, s, now, api.ErrExpired)
	}
	c := plain()
	c.Issued, c.Expires = math.MaxUint64-1, math.MaxUint64
	s = signs(t, one, c)
	isRefused(t, "ahead of the last second", both, s, math.MaxUint64-2, api.ErrEarly)
	isTaken(t, "the second ahead of the last", both, s, math.MaxUint64-1, c)
	isRefused(t, "the last second", both, s, math.MaxUint64, api.ErrExpired)
	c.Issued, c.Expires = 0, 1
	s = signs(t, one, c)
	isTaken(t, "the first second", both, s, 0, c)
	isRefused(t, "the second", both, s, 1, api.ErrExpired)
}

// P10.2, step 1: rings, and lists that are none; the first fault of all.
func TestVerifyRing(t *testing.T) {
	s := signs(t, one, plain())
	short := api.Key{Kid: "s", Secret: "0123456789abcde"}
	for what, keys := range map[string][]api.Key{
		"the same key twice":           {one, one},
		"two secrets of one Kid":       {one, other, {Kid: "k1", Secret: other.Secret}},
		"a Kid twice behind the key":   {one, other, other},
		"a short secret":               {one, short},
		"a short secret ahead":         {short, one},
		"a long secret":                {one, {Kid: "s", Secret: strings.Repeat("x", 257)}},
		"no Kid":                       {one, {Secret: one.Secret}},
		"a long Kid":                   {one, {Kid: strings.Repeat("k", 33), Secret: one.Secret}},
		"a blank in a Kid":             {one, {Kid: "k 1", Secret: one.Secret}},
		"a zero key":                   {{}, one},
		"seventeen keys":               append(ring(16), one),
		"seventeen keys, no key":       make([]api.Key, 17),
		"very many keys":               append(ring(5000), one),
		"seventeen keys, one ahead":    append([]api.Key{one}, ring(16)...),
		"sixteen keys, the last wrong": append(append([]api.Key{one}, ring(14)...), short),
	} {
		isRefused(t, what, keys, s, 100, api.ErrKey)
		isRefused(t, what+", a text too long", keys, strings.Repeat("A", 8193), 100, api.ErrKey)
		isRefused(t, what+", no text", keys, "", 100, api.ErrKey)
	}
	for n := range 16 {
		keys := ring(15)
		keys = append(keys[:n:n], append([]api.Key{one}, keys[n:]...)...)
		isTaken(t, "place "+strconv.Itoa(n), keys, s, 100, plain())
	}
	isTaken(t, "one key", []api.Key{one}, s, 100, plain())
	isTaken(t, "keys with one secret", []api.Key{{Kid: "k0", Secret: one.Secret}, one}, s, 100, plain())
	isTaken(t, "Kids that differ by a capital", []api.Key{{Kid: "K1", Secret: other.Secret}, one}, s, 100, plain())
}

// P10.2, step 1: lengths and dots.
func TestVerifyCut(t *testing.T) {
	pad := func(n int) string {
		for blanks := 0; ; blanks++ {
			if s := made(one, plainHead, plainBody+strings.Repeat(" ", blanks)); len(s) >= n {
				return s
			}
		}
	}
	longest := sealed(one, coded(`{"kid":"k1","alg":"HS256"}`)+"."+coded(plainBody+strings.Repeat(" ", 5991)))
	for _, s := range []string{pad(8000), longest} {
		isTaken(t, "long", both, s, 100, plain())
		isRead(t, "long", s, "k1", plain())
	}
	if len(longest) != 8192 {
		t.Errorf("the longest has %d bytes", len(longest))
	}
	for what, s := range map[string]string{"a signature's byte too many": longest + "A", "no dots": strings.Repeat("A", 8193), "dots": strings.Repeat(".", 8193), "blanks": pad(8193), "very long": strings.Repeat("x.", 1<<20)} {
		isRefused(t, what, both, s, 100, api.ErrLong)
		isNotRead(t, what, s, api.ErrLong)
	}
	s := signs(t, one, plain())
	for _, x := range []string{"", "a", "a.b", ".", "...", "a.b.c.d", s + ".", "." + s, s + "." + s, strings.Replace(s, ".", "..", 1), strings.ReplaceAll(s, ".", ""), strings.Replace(s, ".", "", 1), strings.ReplaceAll(s, ".", ","), strings.Repeat("A", 8192), strings.Repeat(".", 8192)} {
		isRefused(t, "dots", both, x, 100, api.ErrParts)
		isNotRead(t, "dots", x, api.ErrParts)
	}
	for _, x := range []string{"..", "a..", "..a", ".a.", "a.b.c"} {
		isRefused(t, "empty parts", both, x, 100, api.ErrHead)
		isNotRead(t, "empty parts", x, api.ErrHead)
	}
}

// headFaults: heads that are none, and what is told of them. Example 4.
func headFaults() map[string]api.Errno {
	return map[string]api.Errno{
		``: api.ErrHead, ` `: api.ErrHead, `{`: api.ErrHead, `{}`: api.ErrHead, `null`: api.ErrHead, `"HS256"`: api.ErrHead, `7`: api.ErrHead, `["alg","HS256"]`: api.ErrHead, `[{"alg":"HS256","kid":"k1"}]`: api.ErrHead,
		plainHead + `x`: api.ErrHead, plainHead + plainHead: api.ErrHead, `{"alg":"HS256","kid":"k1",}`: api.ErrHead, `{'alg':'HS256'}`: api.ErrHead, "{\"alg\":\"HS256\",\"kid\":\"k1\xff\"}": api.ErrHead,
		`{"kid":"k1"}`: api.ErrHead, `{"Alg":"HS256","kid":"k1"}`: api.ErrHead, `{"alg":null,"kid":"k1"}`: api.ErrHead, `{"alg":256,"kid":"k1"}`: api.ErrHead, `{"alg":["HS256"],"kid":"k1"}`: api.ErrHead, `{"alg":{"alg":"HS256"},"kid":"k1"}`: api.ErrHead, `{"alg":true,"kid":"k1"}`: api.ErrHead,
		`{"alg":"HS256","kid":"k1","alg":"HS256"}`: api.ErrHead, `{"alg":"HS256","alg":"none","kid":"k1"}`: api.ErrHead, `{"alg":"HS256","kid":"k1","\u0061lg":"HS256"}`: api.ErrHead,
		`{"alg":"none","kid":"k1"}`: api.ErrAlg, `{"alg":"","kid":"k1"}`: api.ErrAlg, `{"alg":"hs256","kid":"k1"}`: api.ErrAlg, `{"alg":"HS256 ","kid":"k1"}`: api.ErrAlg, `{"alg":"HS384","kid":"k1"}`: api.ErrAlg, `{"alg":"HS512","kid":"k1"}`: api.ErrAlg, `{"alg":"RS256","kid":"k1"}`: api.ErrAlg, `{"alg":"HS2567","kid":"k1"}`: api.ErrAlg, `{"alg":"HS256\u0000","kid":"k1"}`: api.ErrAlg,
		`{"alg":"none"}`: api.ErrAlg, `{"alg":"none","kid":7}`: api.ErrAlg, `{"alg":"none","kid":"k1","typ":"x"}`: api.ErrAlg, `{"alg":"none","kid":"k1","crit":[]}`: api.ErrAlg, `{"crit":[],"typ":null,"alg":"none"}`: api.ErrAlg,
		`{"alg":"HS256"}`: api.ErrHead, `{"alg":"HS256","Kid":"k1"}`: api.ErrHead, `{"alg":"HS256","kid":null}`: api.ErrHead, `{"alg":"HS256","kid":1}`: api.ErrHead, `{"alg":"HS256","kid":["k1"]}`: api.ErrHead, `{"alg":"HS256","kid":{}}`: api.ErrHead, `{"alg":"HS256","kid":false}`: api.ErrHead,
		`{"alg":"HS256","kid":"k1","typ":"jwt"}`: api.ErrHead, `{"alg":"HS256","kid":"k1","typ":""}`: api.ErrHead, `{"alg":"HS256","kid":"k1","typ":"JWT "}`: api.ErrHead, `{"alg":"HS256","kid":"k1","typ":"at+jwt"}`: api.ErrHead, `{"alg":"HS256","kid":"k1","typ":null}`: api.ErrHead, `{"alg":"HS256","kid":"k1","typ":1}`: api.ErrHead, `{"alg":"HS256","kid":"k1","typ":["JWT"]}`: api.ErrHead, `{"typ":{},"alg":"HS256","kid":"k1"}`: api.ErrHead,
		`{"alg":"HS256","kid":"k1","crit":[]}`: api.ErrHead, `{"alg":"HS256","kid":"k1","crit":null}`: api.ErrHead, `{"alg":"HS256","kid":"k1","typ":"JWT","crit":["exp"]}`: api.ErrHead, `{"crit":"","alg":"HS256","kid":"k1"}`: api.ErrHead, `{"crit":false,"alg":"HS256","kid":"k1","typ":"JWT"}`: api.ErrHead,
	}
}

// P10.2, step 2. What is wrong with the head is told ahead of all that is wrong behind it.
func TestVerifyHead(t *testing.T) {
	for head, fault := range headFaults() {
		for _, s := range []string{made(one, head, plainBody), made(other, head, plainBody), made(one, head, `{}`), coded(head) + "..", coded(head) + ".=.=", coded(head) + "." + coded(plainBody) + "."} {
			isRefused(t, head, both, s, 100, fault)
			isRefused(t, head, nil, s, 0, fault)
		}
	}
	for _, coding := range []string{coded(plainHead) + "=", coded(plainHead) + "A", "A", "=", " " + coded(plainHead), coded(plainHead) + "\n", "\r" + coded(plainHead), plainHead, "e+J", "e/J"} {
		isRefused(t, coding, both, sealed(one, coding+"."+coded(plainBody)), 100, api.ErrHead)
	}
	loose := coded(`{"alg":"HS256","kid":"k1"}`)
	isTaken(t, "whole bits", both, sealed(one, loose+"."+coded(plainBody)), 100, plain())
	for _, last := range []string{"R", "S", "1", "_"} {
		isRefused(t, "loose bits "+last, both, sealed(one, loose[:len(loose)-1]+last+"."+coded(plainBody)), 100, api.ErrHead)
	}
}

// P10.2: heads that are taken: other members, any order, blanks, escapes. Example 4.
func TestVerifyOtherHeads(t *testing.T) {
	for _, head := range []string{
		plainHead, `{"kid":"k1","alg":"HS256"}`, `{"alg":"HS256","kid":"k1"}`, `{"typ":"JWT","kid":"k1","alg":"HS256"}`, ` { "alg" : "HS256" , "kid" : "k1" } `, "\n\t{\"alg\":\"HS256\",\r\"kid\":\"k1\"}\n",
		`{"\u0061lg":"HS25\u0036","k\u0069d":"k\u0031","typ":"J\u0057T"}`, `{"alg":"HS256","kid":"k1","cty":"JWT","jku":null,"x5c":[1,{}],"Crit":[],"Typ":7}`, `{"x":{"crit":[],"alg":"none"},"alg":"HS256","kid":"k1"}`, `{"":0,"alg":"HS256","kid":"k1"}`,
	} {
		isTaken(t, head, both, made(one, head, plainBody), 100, plain())
		isRead(t, head, made(one, head, plainBody), "k1", plain())
	}
}

// P10.2, step 3, examples 3 and 6: the key that the head names is not there; the signature is not asked then.
func TestVerifyKid(t *testing.T) {
	s := signs(t, one, plain())
	isRefused(t, "no keys", nil, s, 100, api.ErrKid)
	isRefused(t, "no keys", []api.Key{}, s, 100, api.ErrKid)
	isRefused(t, "another key", []api.Key{other}, s, 100, api.ErrKid)
	isRefused(t, "sixteen others", ring(16), s, 100, api.ErrKid)
	isRefused(t, "the secret under another Kid", []api.Key{{Kid: "k2", Secret: one.Secret}}, s, 100, api.ErrKid)
	for _, kid := range []string{"", "K1", "k", "k11", "k1 ", " k1", "k1\u0000", "k3", "é", "k,1", strings.Repeat("k", 33), strings.Repeat("k", 5000)} {
		head := headText(kid)
		isRefused(t, kid, both, made(one, head, plainBody), 100, api.ErrKid)
		isRefused(t, kid, both, coded(head)+".=.=", 0, api.ErrKid)
	}
	isRefused(t, "the spare room of the ring", both[:1], s, 100, api.ErrKid)
}

// P10.2, step 4: signatures that are others, or none. Example 5.
func TestVerifySign(t *testing.T) {
	s := signs(t, one, plain())
	dot := strings.LastIndex(s, ".")
	ahead, sum := s[:dot], s[dot+1:]
	raw, _ := base64.RawURLEncoding.DecodeString(sum)
	for what, wrong := range map[string]string{
		"none": "", "with =": sum + "=", "with A": sum + "A", "with a blank": sum + " ", "a line's end": sum + "\n", "short": sum[:42], "cut by four": sum[:39], "cut ahead": sum[1:], "twice": sum + sum,
		"of another key": macOf(other.Secret, ahead), "of the head": macOf(one.Secret, ahead[:strings.Index(ahead, ".")]), "with the dot": macOf(one.Secret, ahead+"."), "of the texts": macOf(one.Secret, plainHead+"."+plainBody), "of nothing": macOf(one.Secret, ""),
		"in hex": hex.EncodeToString(raw), "of hex": coded(hex.EncodeToString(raw)), "bytes": "\x00\xff", "with a zero": coded(string(raw) + "\x00"), "half": coded(string(raw[:16])), "coded twice": coded(sum), "of the empty text": coded(""), "zeros": coded(strings.Repeat("\x00", 32)), "padded": base64.URLEncoding.EncodeToString(raw),
	} {
		isRefused(t, what, both, ahead+"."+wrong, 100, api.ErrSign)
		isRefused(t, what, both, ahead+"."+wrong, 0, api.ErrSign)
		isRead(t, what, ahead+"."+wrong, "k1", plain())
	}
	for what, body := range map[string]string{"no claims": "{}", "no JSON": "", "over": plainBody} {
		isRefused(t, what, both, coded(plainHead)+"."+coded(body)+"."+sum[:42], 160, api.ErrSign)
	}
	isRefused(t, "claims that are no Base64", both, coded(plainHead)+".=."+sum, 100, api.ErrSign)
}

// P10.2, step 4: no alphabet but the one of chapter 2; a signature with a - or a _ must be met for that.
func TestVerifySignAlphabet(t *testing.T) {
	met := 0
	for i := range 40 {
		c := with(4, strconv.Itoa(i))
		s := signs(t, one, c)
		dot := strings.LastIndex(s, ".")
		std := strings.NewReplacer("-", "+", "_", "/").Replace(s[dot:])
		if std != s[dot:] {
			met++
			isRefused(t, "standard base64", both, s[:dot]+std, 100, api.ErrSign)
		}
	}
	if met < 10 {
		t.Errorf("%d signatures with - or _", met)
	}
}

// claimFaults: claims that are none. All have ErrClaims.
func claimFaults() []string {
	list := []string{
		``, ` `, `{}`, `[]`, `null`, `7`, `"x"`, `{`, plainBody[:len(plainBody)-1], plainBody + `,`, plainBody + plainBody, `[` + plainBody + `]`, `{"claims":` + plainBody + `}`,
		strings.Replace(plainBody, `"exp":160`, `"exp":160,"exp":160`, 1), strings.Replace(plainBody, `"exp":160`, `"exp":160,"is\u0073":"x"`, 1), strings.Replace(plainBody, `"ann"`, "\"\xff\"", 1), strings.Replace(plainBody, `"ann"`, `"\ud800"`, 1), strings.Replace(plainBody, `"ann"`, "\"a\nb\"", 1),
		strings.Replace(plainBody, `100`, `160`, 1), strings.Replace(plainBody, `100`, `161`, 1), strings.Replace(plainBody, `160`, `100`, 1), strings.Replace(plainBody, `160`, `0`, 1), strings.Replace(plainBody, `160`, `99`, 1),
	}
	for _, x := range []struct{ name, value string }{{"iss", `"https://w"`}, {"sub", `"ann"`}, {"client_id", `"tv"`}, {"scope", `"read"`}, {"jti", `"7"`}} {
		member := `"` + x.name + `":` + x.value
		for _, value := range []string{`null`, `true`, `7`, `["x"]`, `{}`, `[]`, `"` + strings.Repeat("x", 257) + `"`, `"` + strings.Repeat(`\u00e9`, 128) + `x"`} {
			list = append(list, strings.Replace(plainBody, member, `"`+x.name+`":`+value, 1))
		}
		if x.name != "scope" {
			list = append(list, strings.Replace(plainBody, member, `"`+x.name+`":""`, 1))
		}
		list = append(list, strings.Replace(plainBody, member, `"`+strings.ToUpper(x.name)+`":`+x.value, 1), strings.Replace(plainBody, member+`,`, ``, 1))
	}
	for _, x := range []struct{ member, name string }{{`"iat":100`, "iat"}, {`"exp":160`, "exp"}} {
		for _, value := range []string{`null`, `true`, `"100"`, `[100]`, `{}`, `-1`, `-0`, `100.0`, `1e2`, `160E0`, `18446744073709551616`, `100000000000000000000`, `0.5`} {
			list = append(list, strings.Replace(plainBody, x.member, `"`+x.name+`":`+value, 1))
		}
		list = append(list, strings.Replace(plainBody, `,`+x.member, ``, 1), strings.Replace(plainBody, x.name, strings.ToUpper(x.name), 1))
	}
	return list
}

// P10.2, step 5. No claims are told ahead of the time, and behind the signature.
func TestVerifyClaims(t *testing.T) {
	for _, body := range claimFaults() {
		if body == plainBody {
			t.Fatal("not changed")
		}
		for _, now := range []uint64{0, 100, 160, math.MaxUint64} {
			isRefused(t, body, both, made(one, plainHead, body), now, api.ErrClaims)
		}
		isRefused(t, body, both, made(other, plainHead, body), 100, api.ErrSign)
	}
	for _, coding := range []string{"", "A", "=", coded(plainBody) + "=", coded(plainBody) + "A", coded(plainBody) + "\n", plainBody[:5], coded(plainBody + "x"), coded(plainBody)[1:]} {
		isRefused(t, coding, both, sealed(one, coded(plainHead)+"."+coding), 100, api.ErrClaims)
	}
	loose := coded(plainBody + " ")
	isTaken(t, "whole bits", both, sealed(one, coded(plainHead)+"."+loose), 100, plain())
	isRefused(t, "loose bits", both, sealed(one, coded(plainHead)+"."+loose[:len(loose)-1]+"B"), 100, api.ErrClaims)
}

// P10.2: claims that are taken: other members, any order, blanks, escapes, each at its edges.
func TestVerifyOtherClaims(t *testing.T) {
	for _, body := range []string{
		plainBody, `{"exp":160,"iat":100,"jti":"7","scope":"read","client_id":"tv","sub":"ann","iss":"https://w"}`, " \n" + strings.ReplaceAll(plainBody, `,"`, " ,\t\"") + "\t\r ",
		strings.Replace(plainBody, `"exp":160`, ` "exp" : 160 , "nbf":1e9,"aud":["x"],"":{},"Exp":null`, 1), strings.Replace(plainBody, `"ann"`, `"\u0061n\u006e"`, 1), strings.Replace(plainBody, `https://w`, `https:\/\/w`, 1), strings.Replace(plainBody, `"sub"`, `"s\u0075b"`, 1),
	} {
		isTaken(t, body, both, made(one, plainHead, body), 100, plain())
		isRead(t, body, made(one, plainHead, body), "k1", plain())
	}
	for i := range 5 {
		for _, text := range []string{"x", strings.Repeat("x", 256), strings.Repeat("é", 128), "\x00", "\U0001f600", "\"\\"} {
			isTaken(t, "a claim", both, written(one, with(i, text)), 100, with(i, text))
		}
	}
	isTaken(t, "no scope", both, written(one, with(3, "")), 100, with(3, ""))
	isTaken(t, "raw characters", both, made(one, plainHead, strings.Replace(plainBody, "ann", "änn\U0001f600\x7f", 1)), 100, with(1, "änn\U0001f600\x7f"))
	c := plain()
	c.Issued, c.Expires = 0, math.MaxUint64
	isTaken(t, "the greatest numbers", both, written(one, c), math.MaxUint64-1, c)
}
