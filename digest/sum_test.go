package digest_test

import (
	"bytes"
	"crypto/sha256"
	"math/big"
	"math/rand"
	"testing"

	"wicket/api"
	"wicket/digest"
)

const (
	sumOfNone = "e3b0c442 98fc1c14 9afbf4c8 996fb924 27ae41e4 649b934c a495991b 7852b855"
	sumOfAbc  = "ba7816bf 8f01cfea 414140de 5dae2223 b00361a3 96177a9c b410ff61 f20015ad"
)

// The head of the chapter: its limits and errors.
func TestLimitsAndErrors(t *testing.T) {
	if api.MaxCoded != 65536 || api.SavedBytes != 104 {
		t.Errorf("limits: %d %d", api.MaxCoded, api.SavedBytes)
	}
	for _, x := range []struct{ is, want api.Errno }{
		{api.OK, 0}, {api.ErrLong, 1}, {api.ErrShort, 3}, {api.ErrTail, 4}, {api.ErrDigit, 20}, {api.ErrBits, 21}, {api.ErrSaved, 22},
	} {
		if x.is != x.want {
			t.Errorf("error %d is %d", x.want, x.is)
		}
	}
}

// P2.1, and the chapter's example 1.
func TestSumExamples(t *testing.T) {
	isSum(t, "of nil", digest.Sum(nil), sumOfNone)
	isSum(t, "of no bytes", digest.Sum([]byte{}), sumOfNone)
	isSum(t, "of abc", digest.Sum([]byte("abc")), sumOfAbc)
	isSum(t, "of two blocks", digest.Sum([]byte("abcdbcdecdefdefgefghfghighijhijkijkljklmklmnlmnomnopnopq")), "248d6a61 d20638b8 e5c02693 0c3e6039 a33ce459 64ff2167 f6ecedd4 19db06c1")
	isSum(t, "of a million", digest.Sum(bytes.Repeat([]byte("a"), 1000000)), "cdc76e5c 9914fb92 81a1c7e2 84d73e67 f1809a48 a497200e 046d39cc c7112cd0")
}

// P2.1: bytes of every length around a block's borders, drawn and all alike.
func TestSumOfManyLengths(t *testing.T) {
	r := rand.New(rand.NewSource(1))
	for _, n := range lengths() {
		for _, p := range [][]byte{drawn(r, n), make([]byte, n), bytes.Repeat([]byte{0xff}, n), bytes.Repeat([]byte{0x80}, n)} {
			if digest.Sum(p) != sha256.Sum256(p) {
				t.Errorf("of %d bytes: %x", n, digest.Sum(p))
			}
		}
	}
}

// P2.1: every one bit of a block counts.
func TestSumOfOneBit(t *testing.T) {
	for i := range 8 * 64 {
		p := make([]byte, 64)
		p[i/8] = 1 << (i % 8)
		if digest.Sum(p) != sha256.Sum256(p) {
			t.Errorf("bit %d: %x", i, digest.Sum(p))
		}
	}
}

// squareRootWord is the first 32 bits of the fractional part of the square root of n.
func squareRootWord(n int64) uint32 {
	x := new(big.Int).Lsh(big.NewInt(n), 64)
	return uint32(x.Sqrt(x).Uint64())
}

// Section 2.1: the register begins with the square roots' words; Save of New tells it.
func TestRegisterBeginsWithRoots(t *testing.T) {
	b := digest.New().Save()
	for i, prime := range []int64{2, 3, 5, 7, 11, 13, 17, 19} {
		w := squareRootWord(prime)
		if !bytes.Equal(b[4*i:4*i+4], []byte{byte(w >> 24), byte(w >> 16), byte(w >> 8), byte(w)}) {
			t.Errorf("word %d: %x, not %x", i, b[4*i:4*i+4], w)
		}
	}
}
