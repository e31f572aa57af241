package codes_test

import (
	"crypto/sha256"
	"encoding/hex"
	"math"
	"math/rand"
	"strings"
	"testing"

	"wicket/api"
	"wicket/codes"
)

// handled: Handle has that answer.
func handled(t *testing.T, kind int, text, want string, e api.Errno) {
	t.Helper()
	if h, f := codes.Handle(kind, text); h != want || f != e {
		t.Errorf("Handle(%d, %.70q): %x, %d, not %x, %d", kind, text, h, f, want, e)
	}
}

func matches(t *testing.T, kind int, text, handle string, want bool) {
	t.Helper()
	if codes.Match(kind, text, handle) != want {
		t.Errorf("Match(%d, %.70q, %x): not %v", kind, text, handle, want)
	}
}

// sumOf is the handle, by the library's sum.
func sumOf(kind int, text string) string {
	sum := sha256.Sum256([]byte(string([]byte{byte(kind)}) + text))
	return string(sum[:])
}

// P9.6: the sum of kind and text, at texts of all lengths and all bytes.
func TestHandle(t *testing.T) {
	r := rand.New(rand.NewSource(6))
	for _, kind := range []int{1, 2} {
		for n := range 65 {
			for _, text := range []string{long(n), strings.Repeat("\x00", n), string(randomBytes(r, n)), string(randomBytes(r, n))} {
				handled(t, kind, text, sumOf(kind, text), api.OK)
				matches(t, kind, text, sumOf(kind, text), true)
				matches(t, 3-kind, text, sumOf(kind, text), false)
			}
		}
	}
	known, _ := hex.DecodeString("4bf5122f344554c53bde2ebb8cd2b7e3d1600ad631c385a5d7cce23c7785459a") // of one byte 1
	handled(t, api.HandleDevice, "", string(known), api.OK)
	known, _ = hex.DecodeString("dbc1b4c900ffe48d575b5da5c638040125f65db0fe3e24494b76ea986457d986") // of one byte 2
	handled(t, api.HandleAuth, "", string(known), api.OK)
}

// P9.6: kinds that are none, those too that a byte would not tell from one; texts too long.
func TestHandleErrors(t *testing.T) {
	for _, kind := range []int{3, 0, -1, -2, 4, 9, 255, 256, 257, 258, -254, -255, 1 << 32, 1<<32 + 1, math.MinInt, math.MinInt + 1, math.MaxInt} {
		for _, text := range []string{"", "x", long(64), long(65), long(1 << 20)} {
			handled(t, kind, text, "", api.ErrArg)
			matches(t, kind, text, "", false)
			matches(t, kind, text, sumOf(kind, text), false)
			matches(t, kind, text, sumOf(1, text), false)
		}
	}
	for _, kind := range []int{1, 2} {
		for _, n := range []int{65, 66, 1000, 1 << 20} {
			handled(t, kind, long(n), "", api.ErrLong)
			matches(t, kind, long(n), "", false)
			matches(t, kind, long(n), sumOf(kind, long(n)), false)
		}
	}
}

// P9.6: Match of everything but the handle is false.
func TestMatch(t *testing.T) {
	for _, kind := range []int{1, 2} {
		for _, text := range []string{"", "x", "BCDFGHJK", long(64)} {
			h := sumOf(kind, text)
			matches(t, kind, text, h, true)
			for i := range 256 {
				other := []byte(h)
				other[i/8] ^= 1 << (i % 8)
				matches(t, kind, text, string(other), false)
			}
			for n := range 32 {
				matches(t, kind, text, h[:n], false)
				matches(t, kind, text, h[n+1:], false)
			}
			for _, other := range []string{h + "\x00", "\x00" + h, h + h, hex.EncodeToString([]byte(h)), text, strings.Repeat("\x00", 32)} {
				matches(t, kind, text, other, false)
			}
			matches(t, kind, text+"y", h, false)
			matches(t, kind, "y"+text, h, false)
		}
	}
	matches(t, 1, "x", "", false)
	matches(t, 1, "BCDFGHJK", sumOf(1, "bcdfghjk"), false)
}

// P9.6: of other texts and kinds other handles; a text that begins with a kind's byte is its own.
func TestHandlesAreApart(t *testing.T) {
	of := map[string]string{}
	for _, text := range []string{"", "\x00", "\x01", "\x02", "\x01\x02", "\x02\x01", "\x01x", "x", "x\x00", "xy", "X", " x", long(63), long(64)} {
		for _, kind := range []int{api.HandleDevice, api.HandleAuth} {
			h, e := codes.Handle(kind, text)
			if e != api.OK || len(h) != 32 || of[h] != "" {
				t.Errorf("Handle(%d, %q): %x, %d, as %q", kind, text, h, e, of[h])
			}
			of[h] = "kind and " + text
		}
	}
}

// The codes that are made have handles.
func TestCodesHaveHandles(t *testing.T) {
	s := codes.NewSource(rising(9, 200))
	device, _ := codes.Device(s)
	auth, _ := codes.Auth(s)
	handled(t, api.HandleDevice, device, sumOf(1, device), api.OK)
	handled(t, api.HandleAuth, auth, sumOf(2, auth), api.OK)
	matches(t, api.HandleAuth, device, sumOf(1, device), false)
}
