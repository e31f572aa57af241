package token_test

import (
	"math"
	"math/rand"
	"strings"
	"testing"

	"wicket/api"
	"wicket/token"
)

// P10.1, example 1; the whole token by another hand.
func TestSign(t *testing.T) {
	s := signs(t, one, plain())
	const want = "eyJhbGciOiJIUzI1NiIsImtpZCI6ImsxIiwidHlwIjoiSldUIn0." +
		"eyJpc3MiOiJodHRwczovL3ciLCJzdWIiOiJhbm4iLCJjbGllbnRfaWQiOiJ0diIsInNjb3BlIjoicmVhZCIsImp0aSI6IjciLCJpYXQiOjEwMCwiZXhwIjoxNjB9."
	if !strings.HasPrefix(s, want) || len(s) != len(want)+43 {
		t.Errorf("Sign: %s", s)
	}
	if s != made(one, plainHead, plainBody) {
		t.Errorf("Sign: %s", s)
	}
	signs(t, other, plain())
}

// P10.1: keys at their edges, and one beyond.
func TestSignByKeys(t *testing.T) {
	for _, kid := range []string{"a", "-", "_", ".", "...", "0", strings.Repeat("k", 32), "AZaz09-_."} {
		signs(t, api.Key{Kid: kid, Secret: one.Secret}, plain())
	}
	for _, kid := range []string{"", strings.Repeat("k", 33), strings.Repeat("k", 1000), "k 1", "k1\n", "k\x00", "é", "k/1", "k,1", "k+1", "k=1", "\"", "\xff"} {
		isNotSigned(t, kid, api.Key{Kid: kid, Secret: one.Secret}, plain(), api.ErrKey)
	}
	for _, n := range []int{16, 17, 63, 64, 65, 255, 256} {
		for _, b := range []string{"x", "\x00", "\xff"} {
			signs(t, api.Key{Kid: "k1", Secret: strings.Repeat(b, n)}, plain())
		}
	}
	for _, n := range []int{0, 1, 15, 257, 1000, 1 << 20} {
		isNotSigned(t, "secret", api.Key{Kid: "k1", Secret: strings.Repeat("x", n)}, plain(), api.ErrKey)
	}
}

// P10.1: each byte, at each end of a Kid and in its midst.
func TestSignByEachKidByte(t *testing.T) {
	const may = "ABCDEFGHIJKLMNOPQRSTUVWXYZabcdefghijklmnopqrstuvwxyz0123456789-_."
	for b := range 256 {
		c := string([]byte{byte(b)})
		for _, kid := range []string{c, c + "k", "k" + c, "k" + c + "k", strings.Repeat("k", 31) + c} {
			k := api.Key{Kid: kid, Secret: one.Secret}
			if strings.Contains(may, c) {
				signs(t, k, plain())
			} else {
				isNotSigned(t, kid, k, plain(), api.ErrKey)
			}
		}
	}
}

// P10.1: each claim at its edges, and one beyond; example 2.
func TestSignClaims(t *testing.T) {
	for i := range 5 {
		for _, n := range []int{1, 2, 255, 256} {
			signs(t, one, with(i, strings.Repeat("x", n)))
		}
		signs(t, one, with(i, strings.Repeat("é", 128)))
		for _, n := range []int{257, 258, 1 << 20} {
			isNotSigned(t, "a claim too long", one, with(i, strings.Repeat("x", n)), api.ErrClaims)
		}
		isNotSigned(t, "a claim too long by its bytes", one, with(i, strings.Repeat("é", 128)+"x"), api.ErrClaims)
		for _, unclean := range []string{"\xff", "a\x80", "\xc3", "\xed\xa0\x80", "\xc0\x80", "\xf4\x90\x80\x80", strings.Repeat("x", 255) + "\xc3"} {
			isNotSigned(t, "an unclean claim", one, with(i, unclean), api.ErrClaims)
		}
		for _, clean := range []string{"\x00", " ", "\"", "\\", "/", "\n\r\t\b\f", "\x7f", "\u0080", "\ufffd", "\U0001f600", "a.b", "<&>", "\u2028"} {
			signs(t, one, with(i, clean))
		}
		if i == 3 {
			signs(t, one, with(i, ""))
		} else {
			isNotSigned(t, "a claim of no bytes", one, with(i, ""), api.ErrClaims)
		}
	}
	isNotSigned(t, "no claims", one, api.Claims{}, api.ErrClaims)
}

// P10.1: Issued is less than Expires; both go up to the greatest number.
func TestSignTimes(t *testing.T) {
	edges := []uint64{0, 1, 99, 100, 1 << 32, 1 << 53, 1<<53 + 1, 1<<63 - 1, 1 << 63, math.MaxUint64 - 1, math.MaxUint64}
	for _, issued := range edges {
		for _, expires := range edges {
			c := plain()
			c.Issued, c.Expires = issued, expires
			if issued < expires {
				signs(t, one, c)
			} else {
				isNotSigned(t, "times", one, c, api.ErrClaims)
			}
		}
	}
}

// P10.1: MaxToken bytes and one more. Blanks and bytes 1 have texts of unlike length, so the claims reach all lengths.
func TestSignTooLong(t *testing.T) {
	wide := strings.Repeat("\x01", 256)
	isNotSigned(t, "example 2", one, api.Claims{Issuer: wide, Subject: wide, Client: wide, Scope: wide, Id: wide, Expires: 1}, api.ErrLong)
	seen := map[int]bool{}
	for _, kid := range []int{1, 2, 3, 31, 32} {
		for n := 150; n <= 256; n++ {
			k := api.Key{Kid: strings.Repeat("k", kid), Secret: one.Secret}
			c := api.Claims{Issuer: wide, Subject: wide, Client: wide, Scope: strings.Repeat("\x01", 192), Id: strings.Repeat(" ", n), Expires: 1}
			s := written(k, c)
			seen[len(s)] = true
			if len(s) <= 8192 {
				signs(t, k, c)
			} else {
				isNotSigned(t, "too long", k, c, api.ErrLong)
			}
		}
	}
	if !seen[8192] || !seen[8193] {
		t.Errorf("no token of 8192 or of 8193 bytes: %v", seen)
	}
}

// P10.1: ErrKey goes ahead of ErrClaims, and both ahead of ErrLong.
func TestSignFirstFault(t *testing.T) {
	wide := strings.Repeat("\x01", 256)
	long := api.Claims{Issuer: wide, Subject: wide, Client: wide, Scope: wide, Id: wide, Expires: 1}
	wrong := long
	wrong.Expires = 0
	short := api.Key{Kid: "k1", Secret: "0123456789abcde"}
	isNotSigned(t, "key and claims", short, api.Claims{}, api.ErrKey)
	isNotSigned(t, "key, claims and length", short, wrong, api.ErrKey)
	isNotSigned(t, "key and length", short, long, api.ErrKey)
	isNotSigned(t, "claims and length", one, wrong, api.ErrClaims)
	isNotSigned(t, "length", one, long, api.ErrLong)
	isNotSigned(t, "no key at all", api.Key{}, plain(), api.ErrKey)
}

// P10.1: drawn keys and claims against the token by another hand.
func TestSignDrawn(t *testing.T) {
	r := rand.New(rand.NewSource(1))
	tooLong := 0
	for range 2000 {
		k, c := drawnKey(r), drawnClaims(r)
		if len(written(k, c)) > 8192 {
			tooLong++
			isNotSigned(t, "drawn", k, c, api.ErrLong)
			continue
		}
		s := signs(t, k, c)
		if again, _ := token.Sign(k, c); again != s {
			t.Fatal("the same call has another answer")
		}
	}
	if tooLong > 1000 {
		t.Errorf("%d were too long", tooLong)
	}
}
