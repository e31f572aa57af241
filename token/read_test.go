package token_test

import (
	"math"
	"strings"
	"testing"

	"wicket/api"
)

// P10.3: the third part is not looked at, nor the key, nor the time.
func TestRead(t *testing.T) {
	s := signs(t, one, plain())
	ahead := s[:strings.LastIndex(s, ".")]
	for _, third := range []string{"", "=", "x", "\x00\xff\n", " ", coded("x"), macOf(other.Secret, ahead), macOf(one.Secret, ahead)} {
		isRead(t, third, ahead+"."+third, "k1", plain())
	}
	c := plain()
	for _, times := range [][2]uint64{{0, 1}, {0, math.MaxUint64}, {math.MaxUint64 - 1, math.MaxUint64}} {
		c.Issued, c.Expires = times[0], times[1]
		isRead(t, "times", written(one, c), "k1", c)
	}
}

// P10.3: the Kid is what the head says, whether or not a key may have it.
func TestReadAnyKid(t *testing.T) {
	for _, kid := range []string{"", "k1", "a key", "é\U0001f600", "\x00", "\"\\/", "k.1", strings.Repeat("k", 33), strings.Repeat("k", 2000)} {
		isRead(t, kid, made(one, headText(kid), plainBody), kid, plain())
	}
}

// P10.3: the faults of the head, whatever the claims are, and those of the claims.
func TestReadFaults(t *testing.T) {
	for head, fault := range headFaults() {
		for _, s := range []string{made(one, head, plainBody), made(one, head, `{}`), coded(head) + "..", coded(head) + ".=.="} {
			isNotRead(t, head, s, fault)
		}
	}
	for _, body := range claimFaults() {
		isNotRead(t, body, made(one, plainHead, body), api.ErrClaims)
		isNotRead(t, body, coded(headText("another"))+"."+coded(body)+".", api.ErrClaims)
	}
	for _, coding := range []string{"A", "=", coded(plainHead) + "=", coded(plainHead) + "A", coded(plainHead) + "\n", plainHead} {
		isNotRead(t, coding, coding+"."+coded(plainBody)+".x", api.ErrHead)
	}
	for _, coding := range []string{"", "A", "=", coded(plainBody) + "=", coded(plainBody) + "\n", coded(plainBody + " ")[:len(coded(plainBody+" "))-1] + "B"} {
		isNotRead(t, coding, coded(plainHead)+"."+coding+".x", api.ErrClaims)
	}
}

// P10.3: MaxToken bytes and one more, of which the third part may be most.
func TestReadLong(t *testing.T) {
	ahead := coded(plainHead) + "." + coded(plainBody) + "."
	isRead(t, "MaxToken bytes", ahead+strings.Repeat("x", 8192-len(ahead)), "k1", plain())
	isNotRead(t, "one more", ahead+strings.Repeat("x", 8193-len(ahead)), api.ErrLong)
	isNotRead(t, "dots", ahead+strings.Repeat(".", 8193-len(ahead)), api.ErrLong)
	isNotRead(t, "dots", ahead+strings.Repeat(".", 8192-len(ahead)), api.ErrParts)
}
