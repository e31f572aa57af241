package token_test

import (
	"math/rand"
	"strings"
	"testing"

	"wicket/api"
	"wicket/token"
)

// drawnRing has k at a place that is drawn, among others.
func drawnRing(r *rand.Rand, k api.Key) []api.Key {
	keys := []api.Key{k}
	for range r.Intn(16) {
		if o := drawnKey(r); len(o.Kid) > 8 {
			keys = append(keys, o)
		}
	}
	r.Shuffle(len(keys), func(i, j int) { keys[i], keys[j] = keys[j], keys[i] })
	return keys
}

// P10.5: what was signed is taken from Issued until the second ahead of Expires, wherever its key stands, and read always.
func TestSignedIsTaken(t *testing.T) {
	r := rand.New(rand.NewSource(20))
	count := 0
	for range 1500 {
		k, c := drawnKey(r), drawnClaims(r)
		s, e := token.Sign(k, c)
		if e == api.ErrLong {
			continue
		}
		count++
		keys := drawnRing(r, k)
		between := c.Issued + r.Uint64()%(c.Expires-c.Issued)
		for _, now := range []uint64{c.Issued, between, c.Expires - 1} {
			isTaken(t, "signed", keys, s, now, c)
		}
		if c.Issued > 0 {
			isRefused(t, "early", keys, s, c.Issued-1, api.ErrEarly)
		}
		isRefused(t, "over", keys, s, c.Expires, api.ErrExpired)
		isRead(t, "signed", s, k.Kid, c)
	}
	if count < 1000 {
		t.Errorf("%d were signed", count)
	}
}

// P10.5: each key of a full ring signs, and what it signed is taken by the ring in any order.
func TestAnyPlaceInTheRing(t *testing.T) {
	r := rand.New(rand.NewSource(21))
	keys := ring(16)
	for _, k := range ring(16) {
		s := signs(t, k, plain())
		for range 10 {
			r.Shuffle(len(keys), func(i, j int) { keys[i], keys[j] = keys[j], keys[i] })
			isTaken(t, k.Kid, keys, s, 100, plain())
		}
	}
}

// P10.6: of all texts one digit away from a signature, none is taken but itself.
func TestThirdPartChanged(t *testing.T) {
	const digits = "ABCDEFGHIJKLMNOPQRSTUVWXYZabcdefghijklmnopqrstuvwxyz0123456789-_"
	s := signs(t, one, plain())
	third := strings.LastIndex(s, ".") + 1
	taken := 0
	for at := third; at < len(s); at++ {
		for i := range len(digits) {
			changed := s[:at] + digits[i:i+1] + s[at+1:]
			if changed == s {
				taken++
				isTaken(t, "itself", both, changed, 100, plain())
				continue
			}
			isRefused(t, "a digit changed", both, changed, 100, api.ErrSign)
		}
	}
	if taken != 43 {
		t.Errorf("itself was met %d times", taken)
	}
	for at := third; at <= len(s); at++ {
		for _, more := range []string{"A", "=", "_", " ", "\x00"} {
			isRefused(t, "a byte put in", both, s[:at]+more+s[at:], 100, api.ErrSign)
		}
		if at < len(s) {
			isRefused(t, "a byte taken out", both, s[:at]+s[at+1:], 100, api.ErrSign)
			isRefused(t, "cut", both, s[:at], 100, api.ErrSign)
		}
	}
}

// P10.6: a change of the first two parts is not taken with the old signature, wherever it is; signed anew it is taken as what it says.
func TestFirstPartsChanged(t *testing.T) {
	s := signs(t, one, plain())
	dot := strings.LastIndex(s, ".")
	for at := range dot {
		for _, b := range []string{"A", "z", "_", "=", ""} {
			changed := s[:at] + b + s[at+1:]
			if changed == s {
				continue
			}
			if c, e := token.Verify(both, changed, 100); c != (api.Claims{}) || e == api.OK {
				t.Errorf("%s: %v %d", changed, c, e)
			}
		}
	}
	c := with(1, "bob")
	s = made(one, plainHead, bodyText(c))
	isTaken(t, "signed anew", both, s, 100, c)
	isRefused(t, "with the old signature", both, s[:strings.LastIndex(s, ".")]+signs(t, one, plain())[dot:], 100, api.ErrSign)
}

// P10.6: the head's key is the one whose Mac is asked, not any of the ring.
func TestTheKeyThatIsNamed(t *testing.T) {
	s := signs(t, one, plain())
	ahead := s[:strings.LastIndex(s, ".")]
	isRefused(t, "another key's signature", both, sealed(other, ahead), 100, api.ErrSign)
	isRefused(t, "another key's name", both, made(one, headText("k2"), plainBody), 100, api.ErrSign)
	isTaken(t, "another key's name and signature", both, made(other, headText("k2"), plainBody), 100, plain())
	swapped := []api.Key{{Kid: "k1", Secret: other.Secret}, {Kid: "k2", Secret: one.Secret}}
	isRefused(t, "secrets swapped", swapped, s, 100, api.ErrSign)
	isTaken(t, "secrets swapped", swapped, sealed(other, ahead), 100, plain())
	for _, secret := range []string{one.Secret + "\x00", one.Secret + "x", "x" + one.Secret, strings.ToUpper(one.Secret)} {
		if sealed(api.Key{Secret: secret}, ahead) != s {
			isRefused(t, "another secret", []api.Key{{Kid: "k1", Secret: secret}}, s, 100, api.ErrSign)
		}
	}
}

// P10.6: whatever is taken bears the library's signature under the key that it names.
func TestTakenIsSigned(t *testing.T) {
	r := rand.New(rand.NewSource(22))
	taken := 0
	for range 20000 {
		s := drawnToken(r)
		if _, e := token.Verify(both, s, 100); e != api.OK {
			continue
		}
		taken++
		kid, _, _ := token.Read(s)
		k := one
		if kid == other.Kid {
			k = other
		}
		if dot := strings.LastIndex(s, "."); kid != k.Kid || s != sealed(k, s[:dot]) {
			t.Fatalf("%s was taken", s)
		}
	}
	if taken < 1000 {
		t.Errorf("%d were taken", taken)
	}
}
