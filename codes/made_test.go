package codes_test

import (
	"bytes"
	"encoding/base64"
	"math/rand"
	"testing"

	"wicket/api"
	"wicket/codes"
)

// longCodes: by the call, how many bytes it draws, and how many it writes.
var longCodes = []struct {
	what        string
	m           maker
	drawn, size int
}{{"Device", codes.Device, 32, 43}, {"Auth", codes.Auth, 24, 32}}

// The chapter's numbers.
func TestNumbers(t *testing.T) {
	if api.DeviceBytes != 32 || api.AuthBytes != 24 || api.CodeSize != 8 || api.MaxTyped != 64 || api.MaxDraws != 4096 {
		t.Error("sizes")
	}
	if api.HandleDevice != 1 || api.HandleAuth != 2 || api.ErrDry != 90 || api.ErrWord != 91 {
		t.Error("kinds and errors")
	}
}

// P9.2: base64url of the first bytes, and the others are left.
func TestLongCodes(t *testing.T) {
	r := rand.New(rand.NewSource(1))
	for _, k := range longCodes {
		for _, behind := range []int{0, 1, 31, 1000} {
			for range 20 {
				draws := randomBytes(r, k.drawn+behind)
				code := base64.RawURLEncoding.EncodeToString(draws[:k.drawn])
				if len(code) != k.size {
					t.Fatalf("%s: %d bytes", k.what, len(code))
				}
				makes(t, k.what, k.m, draws, code, api.OK, behind)
			}
		}
	}
	makes(t, "Device", codes.Device, rising(0, 32), "AAECAwQFBgcICQoLDA0ODxAREhMUFRYXGBkaGxwdHh8", api.OK, 0)
	makes(t, "Auth", codes.Auth, rising(0, 25), "AAECAwQFBgcICQoLDA0ODxAREhMUFRYX", api.OK, 1)
	makes(t, "Device", codes.Device, bytes.Repeat([]byte{255}, 32), "__________________________________________8", api.OK, 0)
	makes(t, "Auth", codes.Auth, bytes.Repeat([]byte{251, 239, 190}, 8), "--------------------------------", api.OK, 0)
}

// P9.2: with too few bytes there is no text, and those that it had are used.
func TestLongCodesRunDry(t *testing.T) {
	for _, k := range longCodes {
		for n := range k.drawn {
			makes(t, k.what, k.m, rising(1, n), "", api.ErrDry, 0)
		}
		s := codes.NewSource(rising(1, k.drawn-1))
		k.m(s)
		s.Feed(rising(50, k.drawn))
		if c, e := k.m(s); c != base64.RawURLEncoding.EncodeToString(rising(50, k.drawn)) || e != api.OK {
			t.Errorf("%s behind ErrDry: %q, %d", k.what, c, e)
		}
		dry(t, s)
	}
}

// P9.2, P9.3: one behind the other from one source.
func TestCodesFromOneSource(t *testing.T) {
	s := codes.NewSource(rising(0, 64))
	for _, c := range []struct {
		m    maker
		want string
	}{
		{codes.Auth, "AAECAwQFBgcICQoLDA0ODxAREhMUFRYX"},
		{codes.User, "GHJKLMNP"}, // 24 to 31
		{codes.Auth, "ICEiIyQlJicoKSorLC0uLzAxMjM0NTY3"},
		{codes.User, "VWXZBCDF"}, // 56 to 63
	} {
		if got, e := c.m(s); e != api.OK || got != c.want {
			t.Errorf("%q, %d, not %q", got, e, c.want)
		}
	}
	dry(t, s)
}

// Example 1, and the edges of what is passed over.
func TestUser(t *testing.T) {
	makes(t, "User", codes.User, []byte{0, 19, 20, 239, 240, 1, 2, 3, 4}, "BZBZCDFG", api.OK, 0)
	makes(t, "User", codes.User, []byte{0, 1, 2, 3, 4, 5, 6, 7}, "BCDFGHJK", api.OK, 0)
	makes(t, "User", codes.User, []byte{8, 9, 10, 11, 12, 13, 14, 15, 16, 17, 18, 19}, "LMNPQRST", api.OK, 4)
	makes(t, "User", codes.User, []byte{239, 239, 239, 239, 239, 239, 239, 239, 239}, "ZZZZZZZZ", api.OK, 1)
	makes(t, "User", codes.User, []byte{240, 255, 220, 241, 254, 221, 222, 223, 250, 224, 225, 226, 227, 240}, "BCDFGHJK", api.OK, 1)
}

// P9.3: bytes of 240 and above are passed over, wherever and however many they are.
func TestUserPassesOver(t *testing.T) {
	for high := 240; high <= 255; high++ {
		for place := range 8 {
			for _, many := range []int{1, 2, 100, 4087} {
				draws := append(rising(0, place), bytes.Repeat([]byte{byte(high)}, many)...)
				draws = append(append(draws, rising(place, 8-place)...), byte(high))
				makes(t, "User", codes.User, draws, "BCDFGHJK", api.OK, 1)
			}
		}
	}
}

// P9.3: without a letter's byte there is no text, and all are used.
func TestUserRunsDry(t *testing.T) {
	for n := range 8 {
		makes(t, "User", codes.User, rising(0, n), "", api.ErrDry, 0)
		for _, many := range []int{1, 2, 8, 4000} {
			high := bytes.Repeat([]byte{255}, many)
			makes(t, "User", codes.User, append(rising(0, n), high...), "", api.ErrDry, 0)
			makes(t, "User", codes.User, append(high, rising(0, n)...), "", api.ErrDry, 0)
		}
	}
	makes(t, "User", codes.User, bytes.Repeat([]byte{255}, 8), "", api.ErrDry, 0)
	makes(t, "User", codes.User, bytes.Repeat([]byte{240}, 4096), "", api.ErrDry, 0)
	s := codes.NewSource(rising(0, 7))
	codes.User(s)
	s.Feed(rising(10, 8))
	if c, e := codes.User(s); c != "NPQRSTVW" || e != api.OK {
		t.Errorf("User behind ErrDry: %q, %d", c, e)
	}
}

// P9.8: at each place each letter comes of 12 bytes, and which one hangs on nothing but that byte.
func TestEveryLetterAsOften(t *testing.T) {
	r := rand.New(rand.NewSource(2))
	for place := range 8 {
		of := map[byte]int{}
		for b := range 240 {
			draws := randomBytes(r, 8)
			for i := range draws {
				draws[i] %= 240
			}
			draws[place] = byte(b)
			c, e := codes.User(codes.NewSource(draws))
			if e != api.OK || len(c) != 8 {
				t.Fatalf("User(%x): %q, %d", draws, c, e)
			}
			for i := range draws {
				if c[i] != twenty[draws[i]%20] {
					t.Fatalf("User(%x): %q", draws, c)
				}
			}
			of[c[place]]++
		}
		if len(of) != 20 {
			t.Errorf("%d letters at %d", len(of), place)
		}
		for i := range len(twenty) {
			if of[twenty[i]] != 12 {
				t.Errorf("%c at %d: of %d bytes", twenty[i], place, of[twenty[i]])
			}
		}
	}
}

// P9.8: for every user code there are draws that make it.
func TestEveryCodeComes(t *testing.T) {
	r := rand.New(rand.NewSource(3))
	for range 2000 {
		code := randomCode(r)
		draws := make([]byte, 8)
		for i := range draws {
			draws[i] = byte(bytes.IndexByte([]byte(twenty), code[i]) + 20*r.Intn(12))
		}
		makes(t, "User", codes.User, draws, code, api.OK, 0)
	}
}

// P9.10: other bytes, other codes; bytes behind those that are drawn have no part.
func TestOtherBytesOtherCodes(t *testing.T) {
	r := rand.New(rand.NewSource(4))
	for _, k := range longCodes {
		draws := randomBytes(r, k.drawn+5)
		code, _ := k.m(codes.NewSource(draws))
		from := map[string][]byte{code: draws}
		for i := range 8 * k.drawn {
			other := bytes.Clone(draws)
			other[i/8] ^= 1 << (i % 8)
			c, e := k.m(codes.NewSource(other))
			if was := from[c]; e != api.OK || was != nil {
				t.Fatalf("%s of %x and of %x: %q, %d", k.what, other, was, c, e)
			}
			from[c] = other
		}
		for range 2000 {
			other := randomBytes(r, k.drawn)
			c, _ := k.m(codes.NewSource(other))
			if was := from[c]; was != nil && !bytes.Equal(was[:k.drawn], other) {
				t.Fatalf("%s of %x and of %x: %q", k.what, other, was, c)
			}
			from[c] = other
		}
		for i := range 5 {
			other := bytes.Clone(draws)
			other[k.drawn+i] ^= 0xff
			if c, e := k.m(codes.NewSource(other)); c != code || e != api.OK {
				t.Errorf("%s of other bytes behind: %q, %d", k.what, c, e)
			}
		}
	}
}
