package digest_test

import (
	"bytes"
	"crypto/sha256"
	"math/rand"
	"testing"

	"wicket/digest"
)

// inputs: bytes of many lengths, and saved sums, whole and wrong.
func inputs() [][]byte {
	r := rand.New(rand.NewSource(41))
	whole := hashOf(drawn(r, 100)).Save()
	wrong := bytes.Clone(whole)
	wrong[95] = 1
	return [][]byte{nil, []byte("a"), drawn(r, 55), drawn(r, 56), drawn(r, 63), drawn(r, 64), drawn(r, 65), drawn(r, 200), whole, wrong, whole[:103], append(bytes.Clone(whole), 0)}
}

// Rule 3: arguments are not changed, their spare room neither.
func TestArgumentsAreNotChanged(t *testing.T) {
	for _, p := range inputs() {
		list, whole := roomy(p)
		kept := bytes.Clone(whole)
		for _, ahead := range []int{0, 1, 60, 64} {
			h := hashOf(make([]byte, ahead))
			h.Write(list)
			h.Sum()
			h.Write(list)
		}
		if h, _ := digest.Load(list); h != nil {
			h.Write(list)
			scribble(h.Save())
		}
		digest.Sum(list)
		digest.Joined(list, list)
		digest.Mac(list, list, list)
		digest.Same(list, list)
		digest.Base64(list)
		digest.Hex(list)
		var none *digest.Hash
		none.Write(list)
		if !bytes.Equal(whole, kept) {
			t.Errorf("%d bytes were changed: %x", len(p), whole)
		}
	}
}

// Rule 3: the list of parts is not changed, its spare room neither.
func TestPartsAreNotChanged(t *testing.T) {
	room := [][]byte{[]byte("a"), nil, []byte("bc"), []byte("spare"), []byte("room")}
	digest.Joined(room[:3]...)
	digest.Mac([]byte("key"), room[:3]...)
	if !bytes.Equal(bytes.Join(room, []byte("|")), []byte("a||bc|spare|room")) {
		t.Errorf("parts were changed: %q", room)
	}
}

// Rule 3: what was written or loaded is not kept.
func TestArgumentsAreNotKept(t *testing.T) {
	r := rand.New(rand.NewSource(42))
	for n := range 150 {
		p := drawn(r, n)
		list := bytes.Clone(p)
		h := hashOf(list)
		scribble(list)
		if h.Sum() != sha256.Sum256(p) {
			t.Errorf("%d bytes that were written are kept", n)
		}
		saved := h.Save()
		g := loaded(t, saved)
		scribble(saved)
		if g.Sum() != sha256.Sum256(p) || h.Sum() != g.Sum() {
			t.Errorf("a saved sum of %d bytes is kept", n)
		}
	}
}

// Rule 3: answers share no memory, with one another or with what is kept.
func TestAnswersAreNewMemory(t *testing.T) {
	r := rand.New(rand.NewSource(43))
	for n := range 150 {
		p := drawn(r, n)
		h := hashOf(p)
		s64, s16 := digest.Base64(p), digest.Hex(p)
		one, two := h.Save(), h.Save()
		a, _, _ := digest.FromBase64(s64)
		b, _, _ := digest.FromBase64(s64)
		c, _, _ := digest.FromHex(s16)
		d, _, _ := digest.FromHex(s16)
		scribble(one)
		scribble(a)
		scribble(c)
		if !bytes.Equal(two, h.Save()) || h.Sum() != sha256.Sum256(p) {
			t.Errorf("Saves of %d bytes share memory", n)
		}
		if !bytes.Equal(b, p) || !bytes.Equal(d, p) {
			t.Errorf("answers of %d bytes share memory", n)
		}
	}
}

// Rule 3: appending to an answer reaches no other.
func TestAnswersMayGrow(t *testing.T) {
	h := hashOf([]byte("ab"))
	was := h.Save()
	_ = append(h.Save(), "0123456789"...)
	a, _, _ := digest.FromBase64("Zm9v")
	b, _, _ := digest.FromBase64("Zm9v")
	_ = append(a, "0123456789"...)
	if !bytes.Equal(h.Save(), was) || string(b) != "foo" {
		t.Errorf("an answer grew into another: %x %s", h.Save(), b)
	}
}

// Rule 3: nil and an empty list are the same where they are handed in.
func TestNilIsEmpty(t *testing.T) {
	none := []byte{}
	if digest.Sum(nil) != digest.Sum(none) || digest.Joined(nil) != digest.Joined(none) || digest.Mac(nil, nil) != digest.Mac(none, none) {
		t.Error("a sum tells nil from empty")
	}
	if digest.Base64(nil) != digest.Base64(none) || digest.Hex(nil) != digest.Hex(none) || !digest.Same(nil, none) {
		t.Error("a text tells nil from empty")
	}
	_, a := digest.Load(nil)
	_, b := digest.Load(none)
	if a != b {
		t.Error("Load tells nil from empty")
	}
}

// Rule 4: what spare room an argument has is not to be seen in an answer.
func TestSpareRoomIsNotSeen(t *testing.T) {
	for _, p := range inputs() {
		list, _ := roomy(p)
		tight := bytes.Clone(p)
		tight = tight[:len(tight):len(tight)]
		if digest.Sum(list) != digest.Sum(tight) || digest.Joined(list, list) != digest.Joined(tight, tight) || digest.Mac(list, list) != digest.Mac(tight, tight) {
			t.Errorf("sums of %d bytes", len(p))
		}
		if digest.Base64(list) != digest.Base64(tight) || digest.Hex(list) != digest.Hex(tight) || !digest.Same(list, tight) {
			t.Errorf("texts of %d bytes", len(p))
		}
		_, a := digest.Load(list)
		_, b := digest.Load(tight)
		if a != b || !bytes.Equal(hashOf(list, list).Save(), hashOf(tight, tight).Save()) {
			t.Errorf("Hashes of %d bytes", len(p))
		}
	}
}
