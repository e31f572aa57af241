package token_test

import (
	"slices"
	"strings"
	"testing"

	"wicket/api"
	"wicket/token"
)

func rotates(t *testing.T, keys []api.Key, k api.Key, want []api.Key) []api.Key {
	t.Helper()
	got, e := token.Rotate(keys, k)
	if e != api.OK || !slices.Equal(got, want) {
		t.Fatalf("Rotate of %d keys: %v %d, not %v", len(keys), got, e, want)
	}
	return got
}

func isNotRotated(t *testing.T, what string, keys []api.Key, k api.Key, fault api.Errno) {
	t.Helper()
	if got, e := token.Rotate(keys, k); len(got) != 0 || e != fault {
		t.Errorf("%s: Rotate: %v %d, not %d", what, got, e, fault)
	}
}

// P10.4: the new key ahead of the others, of sixteen the last let go.
func TestRotate(t *testing.T) {
	for n := range 17 {
		keys := ring(n)
		want := append([]api.Key{one}, keys...)
		if n == 16 {
			want = want[:16]
		}
		rotates(t, keys, one, want)
	}
	rotates(t, []api.Key{}, one, []api.Key{one})
	rotates(t, []api.Key{other}, api.Key{Kid: "k1", Secret: other.Secret}, []api.Key{{Kid: "k1", Secret: other.Secret}, other})
	rotates(t, []api.Key{other}, api.Key{Kid: "K2", Secret: other.Secret}, []api.Key{{Kid: "K2", Secret: other.Secret}, other})
}

// P10.4: ErrKey.
func TestRotateNoKey(t *testing.T) {
	wrong := map[string]api.Key{
		"zero": {}, "no Kid": {Secret: one.Secret}, "a long Kid": {Kid: strings.Repeat("k", 33), Secret: one.Secret}, "a blank": {Kid: "a b", Secret: one.Secret}, "a byte above": {Kid: "\x80", Secret: one.Secret},
		"no secret": {Kid: "s"}, "15 bytes": {Kid: "s", Secret: "0123456789abcde"}, "257 bytes": {Kid: "s", Secret: strings.Repeat("x", 257)},
	}
	for what, k := range wrong {
		isNotRotated(t, what, nil, k, api.ErrKey)
		isNotRotated(t, what, ring(16), k, api.ErrKey)
		for at := range 16 {
			keys := ring(16)
			keys[at] = k
			isNotRotated(t, what, keys, one, api.ErrKey)
			isNotRotated(t, what, keys[:at+1], one, api.ErrKey)
		}
	}
	for _, n := range []int{17, 18, 1000} {
		isNotRotated(t, "too many", ring(n), one, api.ErrKey)
	}
	for at := range 16 {
		for twin := range at {
			keys := ring(16)
			keys[at].Kid = keys[twin].Kid
			isNotRotated(t, "a Kid twice", keys, one, api.ErrKey)
			isNotRotated(t, "a Kid twice", keys[:at+1], one, api.ErrKey)
		}
	}
	rotates(t, nil, api.Key{Kid: strings.Repeat("k", 32), Secret: strings.Repeat("x", 256)}, []api.Key{{Kid: strings.Repeat("k", 32), Secret: strings.Repeat("x", 256)}})
	rotates(t, nil, api.Key{Kid: "-", Secret: strings.Repeat("\x00", 16)}, []api.Key{{Kid: "-", Secret: strings.Repeat("\x00", 16)}})
}

// P10.4: ErrThere, of the key too that would be let go; behind ErrKey.
func TestRotateThere(t *testing.T) {
	for n := 1; n <= 16; n++ {
		for at := range n {
			keys := ring(n)
			isNotRotated(t, "the same key", keys, keys[at], api.ErrThere)
			isNotRotated(t, "the same Kid", keys, api.Key{Kid: keys[at].Kid, Secret: one.Secret}, api.ErrThere)
			isNotRotated(t, "the same Kid, no key", keys, api.Key{Kid: keys[at].Kid, Secret: "short"}, api.ErrKey)
		}
	}
	keys := ring(17)
	isNotRotated(t, "too many, and there", keys, keys[0], api.ErrKey)
	keys = append(ring(2), ring(1)...)
	isNotRotated(t, "twice, and there", keys, keys[0], api.ErrKey)
	keys = append(ring(2), api.Key{})
	isNotRotated(t, "no key, and there", keys, keys[0], api.ErrKey)
}

// P10.4 and P10.5, example 6: what a key signed is taken till sixteen others were laid ahead of it, and refused from then on.
func TestRotateThrough(t *testing.T) {
	keys := rotates(t, nil, one, []api.Key{one})
	s := signs(t, one, plain())
	for i, k := range ring(40) {
		keys = rotates(t, keys, k, append([]api.Key{k}, keys[:min(len(keys), 15)]...))
		if i < 15 {
			isTaken(t, "in the ring", keys, s, 100, plain())
		} else {
			isRefused(t, "let go", keys, s, 100, api.ErrKid)
		}
		isTaken(t, "the newest", keys, signs(t, keys[0], plain()), 100, plain())
		isTaken(t, "the oldest", keys, signs(t, keys[len(keys)-1], plain()), 100, plain())
	}
	keys = rotates(t, keys, one, append([]api.Key{one}, keys[:15]...))
	isTaken(t, "back again", keys, s, 100, plain())
}
