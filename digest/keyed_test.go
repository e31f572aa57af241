package digest_test

import (
	"bytes"
	"crypto/hmac"
	"crypto/sha256"
	"encoding/binary"
	"math/rand"
	"testing"

	"wicket/digest"
)

// P2.5, and the chapter's example 5.
func TestJoinedExamples(t *testing.T) {
	isSum(t, "of no parts", digest.Joined(), sumOfNone)
	isSum(t, "of a nil list of parts", digest.Joined(nil...), sumOfNone)
	if digest.Joined([]byte("a"), []byte("bc")) == digest.Joined([]byte("ab"), []byte("c")) {
		t.Error("borders are not seen")
	}
	if digest.Joined([]byte("a"), []byte("bc")) != sha256.Sum256([]byte("\x00\x00\x00\x00\x00\x00\x00\x01a\x00\x00\x00\x00\x00\x00\x00\x02bc")) {
		t.Errorf("of a, bc: %x", digest.Joined([]byte("a"), []byte("bc")))
	}
	if digest.Joined(nil) != sha256.Sum256(make([]byte, 8)) || digest.Joined([]byte{}, nil) != sha256.Sum256(make([]byte, 16)) {
		t.Error("of empty parts")
	}
}

// P2.5: the sum of lengths and parts in turn.
func TestJoinedIsTheRule(t *testing.T) {
	r := rand.New(rand.NewSource(21))
	for range 300 {
		parts := cut(r, drawn(r, r.Intn(1500)))
		var all []byte
		for _, p := range parts {
			all = append(binary.BigEndian.AppendUint64(all, uint64(len(p))), p...)
		}
		if digest.Joined(parts...) != sha256.Sum256(all) {
			t.Fatalf("of %d parts: %x", len(parts), digest.Joined(parts...))
		}
	}
	for _, n := range []int{255, 256, 257, 65535, 65536, 1 << 24} {
		long := make([]byte, n)
		if digest.Joined(long) != sha256.Sum256(append(binary.BigEndian.AppendUint64(nil, uint64(n)), long...)) {
			t.Errorf("of a part of %d", n)
		}
	}
}

// P2.5: other parts, or others' borders, are other bytes.
func TestJoinedTellsPartsApart(t *testing.T) {
	seen := map[[32]byte]int{}
	lists := [][][]byte{{}, {nil}, {nil, nil}, {[]byte("abc")}, {[]byte("abc"), nil}, {nil, []byte("abc")}, {[]byte("a"), []byte("bc")}, {[]byte("ab"), []byte("c")},
		{[]byte("a"), []byte("b"), []byte("c")}, {[]byte("c"), []byte("b"), []byte("a")}, {make([]byte, 8)}, {make([]byte, 7)}}
	for i, parts := range lists {
		sum := digest.Joined(parts...)
		if j, ok := seen[sum]; ok {
			t.Errorf("lists %d and %d have one sum", j, i)
		}
		seen[sum] = i
	}
}

// P2.6, and the chapter's example 4.
func TestMacExamples(t *testing.T) {
	const want = "f7bc83f4 30538424 b13298e6 aa6fb143 ef4d59a1 49461759 97479dbc 2d1a3cd8"
	text := []byte("The quick brown fox jumps over the lazy dog")
	isSum(t, "in one part", digest.Mac([]byte("key"), text), want)
	for i := range text {
		isSum(t, "in two parts", digest.Mac([]byte("key"), text[:i], text[i:]), want)
	}
	isSum(t, "no key, no parts", digest.Mac(nil), "b613679a 0814d9ec 772f95d7 78c35fc5 ff1697c4 93715653 c6c71214 4292c5ad")
	isSum(t, "the key's end is zeros", digest.Mac([]byte("key\x00\x00"), text), want)
}

func macOf(key, text []byte) []byte {
	m := hmac.New(sha256.New, key)
	m.Write(text)
	return m.Sum(nil)
}

// P2.6: keys of every length, on both sides of 64, and parts cut anywhere.
func TestMacOfManyKeys(t *testing.T) {
	r := rand.New(rand.NewSource(22))
	for n := range 200 {
		key, text := drawn(r, n), drawn(r, r.Intn(400))
		want := macOf(key, text)
		if m := digest.Mac(key, text); !bytes.Equal(m[:], want) {
			t.Errorf("a key of %d: %x, not %x", n, m, want)
		}
		if m := digest.Mac(key, cut(r, text)...); !bytes.Equal(m[:], want) {
			t.Errorf("a key of %d, in pieces: %x, not %x", n, m, want)
		}
	}
}

// P2.6: a key of more than 64 bytes is its sum; one of 64 is itself.
func TestMacOfLongKeys(t *testing.T) {
	text := []byte("text")
	for _, n := range []int{64, 65, 128, 5000} {
		key := bytes.Repeat([]byte{7}, n)
		sum := digest.Sum(key)
		if (digest.Mac(key, text) == digest.Mac(sum[:], text)) != (n > 64) {
			t.Errorf("a key of %d", n)
		}
	}
}

// P2.6: of no parts and of empty parts alike.
func TestMacOfNoParts(t *testing.T) {
	key := []byte("key")
	want := macOf(key, nil)
	for _, parts := range [][][]byte{nil, {}, {nil}, {{}, nil, {}}} {
		if m := digest.Mac(key, parts...); !bytes.Equal(m[:], want) {
			t.Errorf("%d empty parts: %x", len(parts), m)
		}
	}
}

// P2.7: wherever the difference is, and of whatever bit.
func TestSame(t *testing.T) {
	for _, n := range []int{0, 1, 2, 31, 32, 33, 100} {
		a := drawn(rand.New(rand.NewSource(23)), n)
		if !digest.Same(a, bytes.Clone(a)) || !digest.Same(a, a) {
			t.Errorf("%d bytes are not themselves", n)
		}
		for bit := range 8 * n {
			b := bytes.Clone(a)
			b[bit/8] ^= 1 << (bit % 8)
			if digest.Same(a, b) || digest.Same(b, a) {
				t.Errorf("%d bytes with bit %d turned are the same", n, bit)
			}
		}
		for _, longer := range [][]byte{append(bytes.Clone(a), 0), append([]byte{0}, a...), append(bytes.Clone(a), 'a')} {
			if digest.Same(a, longer) || digest.Same(longer, a) {
				t.Errorf("%d bytes are the same as one more", n)
			}
		}
	}
	if !digest.Same(nil, []byte{}) || !digest.Same([]byte{}, nil) || !digest.Same(nil, nil) || digest.Same(nil, []byte{0}) || digest.Same([]byte{0}, nil) {
		t.Error("no bytes")
	}
	if digest.Same([]byte{1, 2}, []byte{2, 1}) || digest.Same([]byte{1, 1}, []byte{2, 2}) {
		t.Error("two differences make none")
	}
}
