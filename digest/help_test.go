package digest_test

import (
	"bytes"
	"math/rand"
	"strings"
	"testing"

	"wicket/api"
	"wicket/digest"
)

const spare = 24

// roomy gives p with spare room behind it, all of it filled, and the whole of that memory.
func roomy(p []byte) (list, whole []byte) {
	whole = append(append([]byte{}, p...), bytes.Repeat([]byte{0xa5}, spare)...)
	return whole[:len(p)], whole
}

// scribble turns every byte of a list, spare room too.
func scribble(p []byte) {
	p = p[:cap(p)]
	for i := range p {
		p[i] ^= 0xff
	}
}

func joined(parts ...[]byte) []byte {
	var out []byte
	for _, p := range parts {
		out = append(out, p...)
	}
	return out
}

func drawn(r *rand.Rand, n int) []byte {
	p := make([]byte, n)
	r.Read(p)
	return p
}

// cut cuts p into pieces, some of them empty.
func cut(r *rand.Rand, p []byte) [][]byte {
	pieces := [][]byte{}
	for len(p) > 0 {
		n := min(len(p), r.Intn(1+r.Intn(200)))
		pieces = append(pieces, p[:n])
		p = p[n:]
	}
	return append(pieces, nil)
}

// hashOf is a Hash that took the pieces.
func hashOf(pieces ...[]byte) *digest.Hash {
	h := digest.New()
	for _, p := range pieces {
		h.Write(p)
	}
	return h
}

func loaded(t *testing.T, b []byte) *digest.Hash {
	t.Helper()
	h, e := digest.Load(b)
	if h == nil || e != api.OK {
		t.Fatalf("Load(%x): %d", b, e)
	}
	return h
}

// isSum: the sum is the one whose digits are told, blanks between them or not.
func isSum(t *testing.T, what string, sum [32]byte, want string) {
	t.Helper()
	if got := digest.Hex(sum[:]); got != strings.ReplaceAll(want, " ", "") {
		t.Errorf("%s: %s", what, got)
	}
}

// lengths: those around the borders of blocks and of the last block's room.
func lengths() []int {
	l := []int{1000, 4095, 4096, 4097, 65535, 65536}
	for n := range 300 {
		l = append(l, n)
	}
	return l
}
