package frame_test

import (
	"bytes"
	"math/rand"
	"testing"

	"wicket/api"
	"wicket/frame"
)

const spare = 24

// roomy gives p with spare room behind it, all of it filled, and the whole of that memory.
func roomy(p []byte) (list, whole []byte) {
	whole = append(append([]byte{}, p...), bytes.Repeat([]byte{0xa5}, spare)...)
	return whole[:len(p)], whole
}

// scribble turns every byte of a list, spare room too.
func scribble(p []byte) {
	p = p[:cap(p)]
	for i := range p {
		p[i] ^= 0xff
	}
}

func joined(parts ...[]byte) []byte {
	var out []byte
	for _, p := range parts {
		out = append(out, p...)
	}
	return out
}

func drawn(r *rand.Rand, n int) []byte {
	p := make([]byte, n)
	r.Read(p)
	return p
}

func sealed(t *testing.T, kind byte, load []byte) []byte {
	t.Helper()
	b, e := frame.Seal(kind, load)
	if e != api.OK {
		t.Fatalf("Seal(%d, %d bytes): %d", kind, len(load), e)
	}
	return b
}

// slowSum is the sum by the chapter's words, bit by bit.
func slowSum(register uint32, p []byte) uint32 {
	for _, x := range p {
		register ^= uint32(x)
		for range 8 {
			left := register & 1
			register >>= 1
			if left == 1 {
				register ^= 0xedb88320
			}
		}
	}
	return ^register
}

// laid is a frame by the chapter's words, whatever its kind and length.
func laid(kind byte, load []byte) []byte {
	n := uint32(len(load))
	top := []byte{byte(n), byte(n >> 8), byte(n >> 16), byte(n >> 24)}
	s := slowSum(0xffffffff, joined(top, []byte{kind}, load))
	return joined(top, []byte{byte(s), byte(s >> 8), byte(s >> 16), byte(s >> 24), kind}, load)
}

func sameFrame(a, b api.Frame) bool {
	return a.Kind == b.Kind && bytes.Equal(a.Load, b.Load)
}

func sameFrames(a, b []api.Frame) bool {
	if len(a) != len(b) {
		return false
	}
	for i := range a {
		if !sameFrame(a[i], b[i]) {
			return false
		}
	}
	return true
}

// file gives frames of many lengths, and their bytes one behind the other.
func file(t *testing.T, r *rand.Rand, count int) ([]api.Frame, []byte) {
	t.Helper()
	var frames []api.Frame
	var b []byte
	for i := range count {
		f := api.Frame{Kind: byte(1 + r.Intn(255)), Load: drawn(r, i%5*r.Intn(9))}
		frames = append(frames, f)
		b = append(b, sealed(t, f.Kind, f.Load)...)
	}
	return frames, b
}
