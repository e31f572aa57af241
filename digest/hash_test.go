package digest_test

import (
	"bytes"
	"crypto/sha256"
	"math/rand"
	"testing"

	"wicket/digest"
)

// P2.2, and the chapter's example 2.
func TestHashExamples(t *testing.T) {
	h := digest.New()
	isSum(t, "of a new one", h.Sum(), sumOfNone)
	if h.Size() != 0 {
		t.Errorf("a new one's size: %d", h.Size())
	}
	h.Write([]byte("ab"))
	if h.Sum() != sha256.Sum256([]byte("ab")) || h.Size() != 2 {
		t.Errorf("of ab: %x %d", h.Sum(), h.Size())
	}
	h.Write([]byte("c"))
	isSum(t, "of ab, c", h.Sum(), sumOfAbc)
	if h.Size() != 3 {
		t.Errorf("size of abc: %d", h.Size())
	}
}

// P2.2: Sum and Size change nothing, however often they are asked.
func TestSumChangesNothing(t *testing.T) {
	r := rand.New(rand.NewSource(2))
	for n := range 200 {
		p, more := drawn(r, n), drawn(r, 70)
		h := hashOf(p)
		was := h.Save()
		for range 3 {
			if h.Sum() != sha256.Sum256(p) || h.Size() != n {
				t.Errorf("of %d bytes: %x %d", n, h.Sum(), h.Size())
			}
		}
		if !bytes.Equal(h.Save(), was) {
			t.Errorf("of %d bytes: Sum or Size changed it", n)
		}
		h.Write(more)
		if h.Sum() != sha256.Sum256(joined(p, more)) || h.Size() != n+70 {
			t.Errorf("of %d bytes and 70 behind a Sum: %x %d", n, h.Sum(), h.Size())
		}
	}
}

// P2.2: Write of no bytes changes nothing.
func TestWriteOfNone(t *testing.T) {
	for _, n := range []int{0, 1, 63, 64, 65} {
		h := hashOf(make([]byte, n))
		was := h.Save()
		h.Write(nil)
		h.Write([]byte{})
		if !bytes.Equal(h.Save(), was) || h.Size() != n {
			t.Errorf("behind %d bytes", n)
		}
	}
}

// P2.2: what is done with the one is not seen at its copy, nor the other way round.
func TestCopiesAreApart(t *testing.T) {
	r := rand.New(rand.NewSource(3))
	for n := range 150 {
		p, one, two := drawn(r, n), drawn(r, 1+r.Intn(130)), drawn(r, 1+r.Intn(130))
		h := hashOf(p)
		g := h.Copy()
		if g == h || g.Sum() != h.Sum() || g.Size() != n || !bytes.Equal(g.Save(), h.Save()) {
			t.Errorf("a copy of %d bytes took others", n)
		}
		h.Write(one)
		if g.Sum() != sha256.Sum256(p) || g.Size() != n {
			t.Errorf("of %d bytes: the copy saw it", n)
		}
		g.Write(two)
		if h.Sum() != sha256.Sum256(joined(p, one)) || g.Sum() != sha256.Sum256(joined(p, two)) || h.Size() != n+len(one) {
			t.Errorf("of %d bytes: one saw the other", n)
		}
	}
}

// P2.2: two that are new are apart too.
func TestNewOnesAreApart(t *testing.T) {
	h, g := digest.New(), digest.New()
	h.Write(make([]byte, 100))
	isSum(t, "another new one", g.Sum(), sumOfNone)
}

// P2.4: a nil Hash.
func TestNilHash(t *testing.T) {
	var h *digest.Hash
	h.Write([]byte("abc"))
	h.Write(nil)
	if h.Sum() != [32]byte{} || h.Size() != 0 || h.Copy() != nil || len(h.Save()) != 0 {
		t.Errorf("%x %d %v %x", h.Sum(), h.Size(), h.Copy(), h.Save())
	}
}

// P2.11: all ways to cut some bytes into three.
func TestCutsHaveNoPart(t *testing.T) {
	p := drawn(rand.New(rand.NewSource(4)), 200)
	want := digest.Sum(p)
	for i := range len(p) + 1 {
		for j := i; j <= len(p); j++ {
			if h := hashOf(p[:i], p[i:j], p[j:]); h.Sum() != want || h.Size() != len(p) {
				t.Fatalf("cut at %d and %d: %x %d", i, j, h.Sum(), h.Size())
			}
		}
	}
}

// P2.11: byte by byte, with a Sum, a Copy, a Save and a Load behind each.
func TestByteByByte(t *testing.T) {
	p := drawn(rand.New(rand.NewSource(5)), 300)
	h := digest.New()
	for i := range p {
		h.Write(p[i : i+1])
		h = loaded(t, h.Copy().Save())
		if h.Sum() != sha256.Sum256(p[:i+1]) || h.Size() != i+1 {
			t.Fatalf("behind byte %d: %x %d", i, h.Sum(), h.Size())
		}
	}
}

// P2.11: whatever came between.
func TestWhateverComesBetween(t *testing.T) {
	r := rand.New(rand.NewSource(6))
	for range 500 {
		p := drawn(r, r.Intn(2000))
		h := digest.New()
		for _, piece := range cut(r, p) {
			h.Write(piece)
			switch r.Intn(5) {
			case 0:
				h.Sum()
			case 1:
				h = h.Copy()
			case 2:
				h = loaded(t, h.Save())
			case 3:
				h.Copy().Write([]byte("elsewhere"))
			}
		}
		if h.Sum() != digest.Sum(p) || h.Sum() != sha256.Sum256(p) || h.Size() != len(p) {
			t.Fatalf("of %d bytes: %x %d", len(p), h.Sum(), h.Size())
		}
	}
}
