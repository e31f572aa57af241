package digest_test

import (
	"bytes"
	"crypto/sha256"
	"encoding"
	"encoding/binary"
	"hash"
	"math"
	"math/rand"
	"testing"

	"wicket/api"
	"wicket/digest"
)

// saved lays the bytes of a saved sum: any register, the bytes behind the whole blocks, the number.
func saved(register, behind []byte, number uint64) []byte {
	b := make([]byte, api.SavedBytes)
	copy(b, register)
	copy(b[32:], behind)
	binary.BigEndian.PutUint64(b[96:], number)
	return b
}

// first is the register that a sum begins with.
func first() []byte {
	return []byte("\x6a\x09\xe6\x67\xbb\x67\xae\x85\x3c\x6e\xf3\x72\xa5\x4f\xf5\x3a\x51\x0e\x52\x7f\x9b\x05\x68\x8c\x1f\x83\xd9\xab\x5b\xe0\xcd\x19")
}

// like is the library's sum that goes on from the same saved bytes.
func like(t *testing.T, b []byte) hash.Hash {
	t.Helper()
	h := sha256.New()
	if e := h.(encoding.BinaryUnmarshaler).UnmarshalBinary(joined([]byte("sha\x03"), b)); e != nil {
		t.Fatal(e)
	}
	return h
}

func loadRefuses(t *testing.T, what string, b []byte, want api.Errno) {
	t.Helper()
	if h, e := digest.Load(b); h != nil || e != want {
		t.Errorf("%s: Load answers %d, not %d", what, e, want)
	}
}

// P2.3, and the chapter's example 3.
func TestSaveExamples(t *testing.T) {
	b := digest.New().Save()
	if !bytes.Equal(b, joined(first(), make([]byte, 72))) {
		t.Fatalf("of a new one: %x", b)
	}
	if h := loaded(t, b); h.Size() != 0 || h.Sum() != digest.Sum(nil) {
		t.Errorf("loaded: %x %d", h.Sum(), h.Size())
	}
	one := bytes.Clone(b)
	one[103] = 1
	if h := loaded(t, one); h.Size() != 1 || h.Sum() != digest.Sum([]byte{0}) {
		t.Errorf("with the last byte 1: %x %d", h.Sum(), h.Size())
	}
	block := bytes.Clone(b)
	block[103] = 64
	loaded(t, block)
	block[0] ^= 1
	loaded(t, block)
	for _, at := range []int{0, 32} {
		turned := bytes.Clone(b)
		turned[at] ^= 1
		loadRefuses(t, "a byte changed", turned, api.ErrSaved)
	}
}

// P2.3: the register, the bytes behind the whole blocks with zeros behind them, the number.
func TestSaveIsLaidOut(t *testing.T) {
	r := rand.New(rand.NewSource(11))
	for n := range 260 {
		p := drawn(r, n)
		b := hashOf(p).Save()
		theirs := sha256.New()
		theirs.Write(p)
		state, _ := theirs.(encoding.BinaryMarshaler).MarshalBinary()
		whole := n / 64 * 64
		want := saved(state[4:36], p[whole:], uint64(n))
		if !bytes.Equal(b, want) {
			t.Errorf("of %d bytes: %x, not %x", n, b, want)
		}
	}
}

// P2.3: what was laid aside goes on.
func TestLoadedGoesOn(t *testing.T) {
	r := rand.New(rand.NewSource(12))
	for n := range 200 {
		p, more := drawn(r, n), drawn(r, r.Intn(200))
		h := hashOf(p)
		g := loaded(t, h.Save())
		if g.Sum() != h.Sum() || g.Size() != n {
			t.Errorf("of %d bytes: %x %d", n, g.Sum(), g.Size())
		}
		g.Write(more)
		if g.Sum() != sha256.Sum256(joined(p, more)) || h.Sum() != sha256.Sum256(p) {
			t.Errorf("of %d bytes and %d: %x", n, len(more), g.Sum())
		}
	}
}

// P2.3: fewer and more bytes than a saved sum has, ahead of what they say.
func TestLoadOfOtherLengths(t *testing.T) {
	whole := hashOf([]byte("abc")).Save()
	wrong := bytes.Repeat([]byte{0xff}, api.SavedBytes)
	for n := range api.SavedBytes {
		loadRefuses(t, "short", whole[:n], api.ErrShort)
		loadRefuses(t, "short and wrong", wrong[:n], api.ErrShort)
	}
	loadRefuses(t, "nil", nil, api.ErrShort)
	for n := 1; n < 100; n++ {
		loadRefuses(t, "more", joined(whole, make([]byte, n)), api.ErrTail)
		loadRefuses(t, "more and wrong", joined(wrong, whole[:n]), api.ErrTail)
	}
	loadRefuses(t, "wrong", wrong, api.ErrSaved)
}

// P2.3: the number may be 2^60, and not above it.
func TestLoadOfNumbers(t *testing.T) {
	register := drawn(rand.New(rand.NewSource(13)), 32)
	for _, n := range []uint64{64, 65, 127, 128, 1 << 32, 1<<59 + 1, 1<<60 - 64, 1<<60 - 1, 1 << 60} {
		if h := loaded(t, saved(register, nil, n)); uint64(h.Size()) != n {
			t.Errorf("number %d: %d", n, h.Size())
		}
	}
	for _, n := range []uint64{1<<60 + 1, 1<<60 + 63, 1<<60 + 64, 1 << 61, 1<<61 + 5, 1 << 62, 1 << 63, 1<<63 + 64, math.MaxUint64 - 63, math.MaxUint64} {
		loadRefuses(t, "a number too great", saved(register, nil, n), api.ErrSaved)
		loadRefuses(t, "a number too great", saved(first(), nil, n), api.ErrSaved)
	}
}

// P2.3: bytes behind those that were taken are 0, each of them; those that were taken may be any.
func TestLoadOfBytesBehind(t *testing.T) {
	for _, blocks := range []uint64{0, 64, 640, 1<<60 - 64} {
		for held := range 64 {
			for at := range 64 {
				for _, x := range []byte{1, 0x80, 0xff} {
					b := saved(first(), nil, blocks+uint64(held))
					b[32+at] = x
					if at >= held {
						loadRefuses(t, "a byte behind", b, api.ErrSaved)
					} else if h := loaded(t, b); !bytes.Equal(h.Save(), b) {
						t.Errorf("Save of Load(%x): %x", b, h.Save())
					}
				}
			}
		}
	}
}

// P2.3: below 64 bytes the register is the first one, to the bit; from 64 on it may be any.
func TestLoadOfRegisters(t *testing.T) {
	for number := range uint64(64) {
		loaded(t, saved(first(), nil, number))
		for bit := range 256 {
			b := saved(first(), nil, number)
			b[bit/8] ^= 1 << (bit % 8)
			loadRefuses(t, "another register", b, api.ErrSaved)
		}
	}
	for bit := range 256 {
		b := saved(first(), nil, 64)
		b[bit/8] ^= 1 << (bit % 8)
		loaded(t, b)
	}
}

// P2.3: from any register, number and bytes it goes on by the rule, and Save of Load(b) is b.
func TestLoadedFromAnyRegister(t *testing.T) {
	r := rand.New(rand.NewSource(14))
	for range 2000 {
		number := max(64, r.Uint64()>>(4+r.Intn(58)))
		b := saved(drawn(r, 32), drawn(r, int(number%64)), number)
		h := loaded(t, b)
		if !bytes.Equal(h.Save(), b) || uint64(h.Size()) != number {
			t.Fatalf("Save of Load(%x): %x", b, h.Save())
		}
		theirs := like(t, b)
		for range 3 {
			if sum := h.Sum(); !bytes.Equal(sum[:], theirs.Sum(nil)) {
				t.Fatalf("%x: %x, not %x", b, sum, theirs.Sum(nil))
			}
			more := drawn(r, r.Intn(150))
			h.Write(more)
			theirs.Write(more)
		}
	}
}

// P2.2, P2.3: behind the greatest number that is loaded more is taken; Size and the bits' number go on.
func TestBehindTheGreatestNumber(t *testing.T) {
	b := saved(bytes.Repeat([]byte{0xc3}, 32), nil, 1<<60)
	h, theirs := loaded(t, b), like(t, b)
	more := drawn(rand.New(rand.NewSource(15)), 1000)
	h.Write(more)
	theirs.Write(more)
	sum := h.Sum()
	if !bytes.Equal(sum[:], theirs.Sum(nil)) || h.Size() != 1<<60+1000 {
		t.Errorf("%x %d", sum, h.Size())
	}
	loadRefuses(t, "its Save", h.Save(), api.ErrSaved)
}
