package token_test

import (
	"cmp"
	"slices"
	"strings"
	"testing"
	"unsafe"

	"wicket/api"
	"wicket/token"
)

// span is a piece of memory, from low up to high.
type span struct{ low, high uintptr }

func spans(texts ...string) []span {
	var l []span
	for _, s := range texts {
		low := uintptr(unsafe.Pointer(unsafe.StringData(s)))
		l = append(l, span{low, low + uintptr(len(s))})
	}
	return l
}

func spansOfClaims(c api.Claims) []span {
	return spans(c.Issuer, c.Subject, c.Client, c.Scope, c.Id)
}

// spansOfKeys: the list with its spare room, and the keys' texts.
func spansOfKeys(keys []api.Key) []span {
	low := uintptr(unsafe.Pointer(unsafe.SliceData(keys)))
	l := []span{{low, low + uintptr(cap(keys))*unsafe.Sizeof(api.Key{})}}
	for _, k := range keys {
		l = append(l, spans(k.Kid, k.Secret)...)
	}
	return l
}

// apart: do no two of the spans share a byte?
func apart(groups ...[]span) bool {
	all := slices.Concat(groups...)
	all = slices.DeleteFunc(all, func(s span) bool { return s.low == s.high })
	slices.SortFunc(all, func(a, b span) int { return cmp.Compare(a.low, b.low) })
	for i := 1; i < len(all); i++ {
		if all[i].low < all[i-1].high {
			return false
		}
	}
	return true
}

// own is a text over memory of its own, which may be written into.
func own(s string) (string, []byte) {
	p := []byte(s)
	return unsafe.String(unsafe.SliceData(p), len(p)), p
}

func scribble(p []byte) {
	for i := range p {
		p[i] ^= 0xff
	}
}

// Rule 3: the texts of keys and claims are not changed, and a token is new memory.
func TestTokensAreNewMemory(t *testing.T) {
	kid, kidBytes := own("k1")
	secret, secretBytes := own(one.Secret)
	subject, subjectBytes := own("ann")
	c := plain()
	c.Subject = subject
	first, e := token.Sign(api.Key{Kid: kid, Secret: secret}, c)
	second, _ := token.Sign(api.Key{Kid: kid, Secret: secret}, c)
	want := made(one, plainHead, plainBody)
	if e != api.OK || kid != "k1" || secret != one.Secret || subject != "ann" {
		t.Errorf("Sign: %d, or its arguments have changed", e)
	}
	if !apart(spans(first), spans(second), spans(kid, secret), spansOfClaims(c)) {
		t.Error("a token shares memory")
	}
	scribble(kidBytes)
	scribble(secretBytes)
	scribble(subjectBytes)
	if first != want || second != want {
		t.Error("a token has changed with the arguments")
	}
}

// Rule 3: what Verify and Read answer shares no memory with the token, with another answer, or within itself.
func TestClaimsAreNewMemory(t *testing.T) {
	c := plain()
	c.Issuer, c.Subject, c.Client, c.Scope, c.Id = "same", "same", "same", "same", "same"
	text, p := own(made(one, plainHead, bodyText(c)))
	keys := []api.Key{other, one}
	first, e := token.Verify(keys, text, 100)
	second, _ := token.Verify(keys, text, 100)
	kid, third, f := token.Read(text)
	again, fourth, _ := token.Read(text)
	if e != api.OK || f != api.OK || text != made(one, plainHead, bodyText(c)) {
		t.Errorf("%d, %d, or the token has changed", e, f)
	}
	if !apart(spans(text), spansOfKeys(keys), spansOfClaims(first), spansOfClaims(second), spansOfClaims(third), spansOfClaims(fourth), spans(kid, again)) {
		t.Error("what is answered shares memory")
	}
	scribble(p)
	if first != c || second != c || third != c || fourth != c || kid != "k1" || again != "k1" {
		t.Error("what was answered has changed with the token")
	}
}

// roomy is the keys with texts of their own, and spare room with something in it.
func roomy(keys []api.Key) []api.Key {
	var l []api.Key
	for _, k := range keys {
		l = append(l, api.Key{Kid: strings.Clone(k.Kid), Secret: strings.Clone(k.Secret)})
	}
	return append(l, api.Key{Kid: "spare", Secret: "the secret of spare room"}, one, other)[:len(l)]
}

// Rule 3: the ring that is handed in is not changed, its spare room neither; the one that is answered is new memory.
func TestRingsAreNewMemory(t *testing.T) {
	for n := range 18 {
		keys := roomy(ring(n))
		was := slices.Clone(keys[:cap(keys)])
		k := roomy([]api.Key{one})[0]
		first, e := token.Rotate(keys, k)
		second, _ := token.Rotate(keys, k)
		token.Rotate(keys, api.Key{})
		token.Verify(keys, "a.b.c", 100)
		token.Verify(keys, made(one, plainHead, plainBody), 100)
		if !slices.Equal(keys[:cap(keys)], was) {
			t.Errorf("%d keys were changed", n)
		}
		if (e == api.OK) != (n <= 16) {
			t.Errorf("Rotate of %d keys: %d", n, e)
		}
		if !apart(spansOfKeys(keys), spans(k.Kid, k.Secret), spansOfKeys(first), spansOfKeys(second)) {
			t.Errorf("a ring of %d keys shares memory", n)
		}
		want := slices.Clone(second)
		for i := range first[:cap(first)] {
			first[:cap(first)][i] = api.Key{}
		}
		for i := range keys[:cap(keys)] {
			keys[:cap(keys)][i] = api.Key{}
		}
		if !slices.Equal(second, want) {
			t.Errorf("a ring of %d keys has changed with another", n)
		}
	}
}

// Rule 3: the key that is laid ahead is not kept by its memory, nor those behind it.
func TestRotateKeepsNoText(t *testing.T) {
	kid, kidBytes := own("k1")
	secret, secretBytes := own(one.Secret)
	old, oldBytes := own(other.Secret)
	keys, e := token.Rotate([]api.Key{{Kid: "k2", Secret: old}}, api.Key{Kid: kid, Secret: secret})
	scribble(kidBytes)
	scribble(secretBytes)
	scribble(oldBytes)
	if e != api.OK || !slices.Equal(keys, []api.Key{one, other}) {
		t.Errorf("Rotate: %v %d", keys, e)
	}
}

// Rule 3: nil and an empty list are the same, and spare room is not seen.
func TestNilRing(t *testing.T) {
	s := made(one, plainHead, plainBody)
	for _, none := range [][]api.Key{nil, {}, make([]api.Key, 0, 4), []api.Key{one, other}[:0]} {
		isRefused(t, "no keys", none, s, 100, api.ErrKid)
		rotates(t, none, one, []api.Key{one})
	}
	isRefused(t, "spare room", []api.Key{other, one}[:1], s, 100, api.ErrKid)
	isTaken(t, "spare room with a key twice", []api.Key{one, one}[:1], s, 100, plain())
}

// Rule 4: the same calls have the same answers, whatever came between.
func TestSameAgain(t *testing.T) {
	s := made(one, plainHead, plainBody)
	for range 3 {
		signs(t, one, plain())
		isTaken(t, "again", both, s, 100, plain())
		isRefused(t, "again", both, s, 160, api.ErrExpired)
		isRefused(t, "again", nil, s, 100, api.ErrKid)
		isRead(t, "again", s, "k1", plain())
		isNotRead(t, "again", "..", api.ErrHead)
		rotates(t, []api.Key{other}, one, []api.Key{one, other})
	}
}
