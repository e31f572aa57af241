package digest_test

import (
	"bytes"
	"encoding/base64"
	"encoding/hex"
	"math/rand"
	"strings"
	"testing"

	"wicket/api"
	"wicket/digest"
)

const (
	letters64 = "ABCDEFGHIJKLMNOPQRSTUVWXYZabcdefghijklmnopqrstuvwxyz0123456789-_"
	letters16 = "0123456789abcdef"
)

// slowFrom reads by the chapter's words: a text of digits of some bits each, bit by bit.
func slowFrom(s, digits string, width int) ([]byte, api.Errno, int) {
	if len(s) > api.MaxCoded {
		return nil, api.ErrLong, 0
	}
	var bits []byte
	for i := range len(s) {
		n := strings.IndexByte(digits, s[i])
		if n < 0 {
			return nil, api.ErrDigit, i
		}
		for b := width - 1; b >= 0; b-- {
			bits = append(bits, byte(n>>b&1))
		}
	}
	left := len(bits) % 8
	if left >= width || width == 4 && left != 0 {
		return nil, api.ErrShort, len(s)
	}
	if bytes.IndexByte(bits[len(bits)-left:], 1) >= 0 {
		return nil, api.ErrBits, len(s) - 1
	}
	var out []byte
	for i := 0; i+8 <= len(bits); i += 8 {
		x := byte(0)
		for _, b := range bits[i : i+8] {
			x = x<<1 | b
		}
		out = append(out, x)
	}
	return out, api.OK, 0
}

func from64(t *testing.T, s string, want []byte, why api.Errno, place int) {
	t.Helper()
	if p, e, at := digest.FromBase64(s); !bytes.Equal(p, want) || e != why || at != place {
		t.Errorf("FromBase64(%.20q, %d bytes): %.20x, %d, %d; not %.20x, %d, %d", s, len(s), p, e, at, want, why, place)
	}
}

func from16(t *testing.T, s string, want []byte, why api.Errno, place int) {
	t.Helper()
	if p, e, at := digest.FromHex(s); !bytes.Equal(p, want) || e != why || at != place {
		t.Errorf("FromHex(%.20q, %d bytes): %.20x, %d, %d; not %.20x, %d, %d", s, len(s), p, e, at, want, why, place)
	}
}

// slowly holds both readers against the slow one.
func slowly(t *testing.T, s string) {
	t.Helper()
	p, e, at := slowFrom(s, letters64, 6)
	from64(t, s, p, e, at)
	p, e, at = slowFrom(s, letters16, 4)
	from16(t, s, p, e, at)
}

// P2.8, and the chapter's example 6.
func TestBase64Examples(t *testing.T) {
	for _, x := range []struct{ p, want string }{
		{"", ""}, {"f", "Zg"}, {"fo", "Zm8"}, {"foo", "Zm9v"}, {"foob", "Zm9vYg"}, {"fooba", "Zm9vYmE"}, {"foobar", "Zm9vYmFy"},
		{"\xfb\xff", "-_8"}, {"\x00", "AA"}, {"\x00\x00", "AAA"}, {"\xff", "_w"}, {"\xff\xff\xff", "____"},
	} {
		if s := digest.Base64([]byte(x.p)); s != x.want {
			t.Errorf("Base64(%x): %s", x.p, s)
		}
		from64(t, x.want, []byte(x.p), api.OK, 0)
	}
	if digest.Base64(nil) != "" || digest.Hex(nil) != "" {
		t.Error("of nil")
	}
}

// P2.8: the whole alphabet, and bytes of every length.
func TestBase64IsTheRule(t *testing.T) {
	all, _ := base64.RawURLEncoding.DecodeString(letters64)
	if s := digest.Base64(all); s != letters64 {
		t.Errorf("the alphabet: %s", s)
	}
	r := rand.New(rand.NewSource(31))
	for n := range 300 {
		p := drawn(r, n)
		if s := digest.Base64(p); s != base64.RawURLEncoding.EncodeToString(p) {
			t.Errorf("Base64(%x): %s", p, s)
		}
	}
	for x := range 1 << 16 {
		p := []byte{byte(x), byte(x >> 8)}
		if s := digest.Base64(p); s != base64.RawURLEncoding.EncodeToString(p) {
			t.Errorf("Base64(%x): %s", p, s)
		}
	}
}

// P2.9, and the chapter's example 6: of several errors the first, and its place.
func TestFromBase64Refuses(t *testing.T) {
	for _, x := range []struct {
		s  string
		e  api.Errno
		at int
	}{
		{"Zh", api.ErrBits, 1}, {"Zg==", api.ErrDigit, 2}, {"A", api.ErrShort, 1}, {"A=", api.ErrDigit, 1}, {"_", api.ErrShort, 1},
		{"=", api.ErrDigit, 0}, {"AAAA=", api.ErrDigit, 4}, {"AAAAA", api.ErrShort, 5}, {"AAAAAB", api.ErrBits, 5}, {"AAB", api.ErrBits, 2}, {"AAC", api.ErrBits, 2},
		{"AAAAAAD", api.ErrBits, 6}, {"A+AA", api.ErrDigit, 1}, {"AA/A", api.ErrDigit, 2}, {"AA\n", api.ErrDigit, 2}, {"\r\nAA", api.ErrDigit, 0}, {"AB A", api.ErrDigit, 2},
		{"AAA\x00", api.ErrDigit, 3}, {"\xff", api.ErrDigit, 0}, {"A\xc3\xa4A", api.ErrDigit, 1}, {"==", api.ErrDigit, 0},
	} {
		from64(t, x.s, nil, x.e, x.at)
	}
}

// P2.9, P2.10: the longest text, and one byte more, whatever it says.
func TestLongestText(t *testing.T) {
	longest := strings.Repeat("A", api.MaxCoded)
	from64(t, longest, make([]byte, 49152), api.OK, 0)
	from64(t, longest[1:], make([]byte, 49151), api.OK, 0)
	from64(t, longest[1:]+"=", nil, api.ErrDigit, api.MaxCoded-1)
	from64(t, longest[2:]+"B", nil, api.ErrBits, api.MaxCoded-2)
	from64(t, longest[3:], nil, api.ErrShort, api.MaxCoded-3)
	for _, s := range []string{longest + "A", longest + "AA", longest + "AB", "=" + longest, longest + longest} {
		from64(t, s, nil, api.ErrLong, 0)
		from16(t, s, nil, api.ErrLong, 0)
	}
	zeros := strings.Repeat("0", api.MaxCoded)
	from16(t, zeros, make([]byte, 32768), api.OK, 0)
	from16(t, zeros[1:], nil, api.ErrShort, api.MaxCoded-1)
	from16(t, zeros[1:]+"A", nil, api.ErrDigit, api.MaxCoded-1)
	from16(t, zeros+"0", nil, api.ErrLong, 0)
	from16(t, zeros+"00", nil, api.ErrLong, 0)
}

// P2.8, P2.10: what is written has no longest.
func TestWrittenBeyondTheLongest(t *testing.T) {
	p := drawn(rand.New(rand.NewSource(32)), 100000)
	if digest.Base64(p) != base64.RawURLEncoding.EncodeToString(p) || digest.Hex(p) != hex.EncodeToString(p) {
		t.Error("100000 bytes")
	}
}

// P2.9, P2.10: every byte at every place of short texts.
func TestFromEveryByte(t *testing.T) {
	for _, s := range []string{"A", "AA", "AAA", "AAAA", "AAAAA", "AAAAAA", "0", "00", "000", "0000", "00000"} {
		for at := range s {
			for x := range 256 {
				b := []byte(s)
				b[at] = byte(x)
				slowly(t, string(b))
			}
		}
	}
	for i := range 1 << 16 {
		slowly(t, string([]byte{byte(i), byte(i >> 8)}))
	}
}

// P2.9, P2.10: many texts, most of their bytes digits.
func TestFromManyTexts(t *testing.T) {
	r := rand.New(rand.NewSource(33))
	for i := range 50000 {
		digits := []string{letters64, letters16, "A0", "AQgw"}[i%4]
		b := drawn(r, r.Intn(14))
		for j := range b {
			if r.Intn(20) > 0 {
				b[j] = digits[int(b[j])%len(digits)]
			}
		}
		slowly(t, string(b))
	}
}

// P2.10, and the chapter's example 7.
func TestHexExamples(t *testing.T) {
	if s := digest.Hex([]byte{0x0a, 0xff}); s != "0aff" {
		t.Errorf("Hex(0a ff): %s", s)
	}
	for x := range 256 {
		p := []byte{byte(x)}
		if s := digest.Hex(p); s != hex.EncodeToString(p) {
			t.Errorf("Hex(%x): %s", p, s)
		}
		from16(t, hex.EncodeToString(p), p, api.OK, 0)
	}
	from16(t, "", nil, api.OK, 0)
	from16(t, "666f", []byte("fo"), api.OK, 0)
	from16(t, "0A", nil, api.ErrDigit, 1)
	from16(t, "0af", nil, api.ErrShort, 3)
	from16(t, "0", nil, api.ErrShort, 1)
	from16(t, "0aF", nil, api.ErrDigit, 2)
	from16(t, "g", nil, api.ErrDigit, 0)
	from16(t, "00 0", nil, api.ErrDigit, 2)
	from16(t, "0x00", nil, api.ErrDigit, 1)
	from16(t, "`0", nil, api.ErrDigit, 0)
}

// P2.12: bytes there and back.
func TestBytesThereAndBack(t *testing.T) {
	r := rand.New(rand.NewSource(34))
	for _, n := range append(lengths(), 49152, 32768, 32767, 49151) {
		p := drawn(r, n)
		if s := digest.Base64(p); len(s) <= api.MaxCoded {
			from64(t, s, p, api.OK, 0)
		}
		if s := digest.Hex(p); len(s) <= api.MaxCoded {
			from16(t, s, p, api.OK, 0)
		}
	}
}

// P2.12: each text that is taken is the one that is written of its bytes.
func TestTextsThereAndBack(t *testing.T) {
	const some = "AQgwZ_-09a="
	for i := range len(some) * len(some) * len(some) * len(some) {
		b := []byte{some[i%11], some[i/11%11], some[i/121%11], some[i/1331]}
		for n := range 5 {
			s := string(b[:n])
			if p, e, _ := digest.FromBase64(s); e == api.OK && digest.Base64(p) != s {
				t.Errorf("FromBase64(%q) took it as %s", s, digest.Base64(p))
			}
			if p, e, _ := digest.FromHex(s); e == api.OK && digest.Hex(p) != s {
				t.Errorf("FromHex(%q) took it as %s", s, digest.Hex(p))
			}
		}
	}
}
