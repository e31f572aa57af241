package frame_test

import (
	"hash/crc32"
	"math/rand"
	"testing"

	"wicket/api"
	"wicket/frame"
)

// The head of the chapter: its limits and errors.
func TestLimitsAndErrors(t *testing.T) {
	if api.MaxLoad != 2097152 || api.FrameTop != 9 {
		t.Errorf("limits: %d %d", api.MaxLoad, api.FrameTop)
	}
	for _, x := range []struct{ is, want api.Errno }{
		{api.OK, 0}, {api.ErrLong, 1}, {api.ErrArg, 2}, {api.ErrShort, 3},
		{api.ErrForm, 10}, {api.ErrWide, 11}, {api.ErrSum, 12}, {api.ErrKind, 13},
	} {
		if x.is != x.want {
			t.Errorf("error %d is %d", x.want, x.is)
		}
	}
}

// P1.1, and the chapter's example 1.
func TestCrcExamples(t *testing.T) {
	for _, p := range [][]byte{nil, {}} {
		if c := frame.Crc(p); c != 0 {
			t.Errorf("of no bytes: %x", c)
		}
	}
	if c := frame.Crc([]byte("123456789")); c != 0xcbf43926 {
		t.Errorf("of nine digits: %x", c)
	}
	if c := frame.CrcOn(frame.Crc([]byte("1234")), []byte("56789")); c != 0xcbf43926 {
		t.Errorf("of nine digits in two pieces: %x", c)
	}
}

// P1.1: every byte, from registers of many kinds, as the rule says bit by bit.
func TestCrcOnIsTheRule(t *testing.T) {
	r := rand.New(rand.NewSource(1))
	for x := range 256 {
		p := []byte{byte(x)}
		if c := frame.Crc(p); c != slowSum(0xffffffff, p) {
			t.Errorf("Crc(%x): %x", p, c)
		}
		for _, c := range []uint32{0, 1, 0x80000000, 0xffffffff, r.Uint32()} {
			if got, want := frame.CrcOn(c, p), slowSum(^c, p); got != want {
				t.Errorf("CrcOn(%x, %x): %x, not %x", c, p, got, want)
			}
		}
	}
	for n := range 300 {
		p, c := drawn(r, n), r.Uint32()
		if got, want := frame.CrcOn(c, p), slowSum(^c, p); got != want {
			t.Errorf("CrcOn(%x, %d bytes): %x, not %x", c, n, got, want)
		}
		if got, want := frame.Crc(p), crc32.ChecksumIEEE(p); got != want {
			t.Errorf("Crc(%d bytes): %x, not %x", n, got, want)
		}
	}
}

// P1.1: of no more bytes a sum is what it was, and a sum goes on wherever it is cut.
func TestCrcOnGoesOn(t *testing.T) {
	for _, c := range []uint32{0, 1, 0xcbf43926, 0xffffffff} {
		if got := frame.CrcOn(c, nil); got != c {
			t.Errorf("CrcOn(%x, none): %x", c, got)
		}
	}
	p := drawn(rand.New(rand.NewSource(2)), 70)
	for i := range len(p) + 1 {
		for j := i; j <= len(p); j++ {
			c := frame.CrcOn(frame.CrcOn(frame.Crc(p[:i]), p[i:j]), p[j:])
			if c != frame.Crc(p) {
				t.Fatalf("cut at %d and %d: %x", i, j, c)
			}
		}
	}
}
