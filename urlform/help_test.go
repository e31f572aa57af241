package urlform_test

import (
	"math/rand"
	"slices"
	"strings"
	"testing"

	"wicket/api"
	"wicket/urlform"
)

// drawnOf is a text of at most n bytes, each one of alphabet's.
func drawnOf(r *rand.Rand, alphabet string, n int) string {
	p := make([]byte, r.Intn(n+1))
	for i := range p {
		p[i] = alphabet[r.Intn(len(alphabet))]
	}
	return string(p)
}

// drawn is a text of at most n bytes of all values.
func drawn(r *rand.Rand, n int) string {
	p := make([]byte, r.Intn(n+1))
	r.Read(p)
	return string(p)
}

func drawnPairs(r *rand.Rand, count, n int) []api.Pair {
	l := []api.Pair{}
	for range count {
		l = append(l, api.Pair{Name: drawn(r, n), Value: drawn(r, n)})
	}
	return l
}

// pairs makes a list of names and their values, told in turn.
func pairs(texts ...string) []api.Pair {
	l := []api.Pair{}
	for i := 0; i < len(texts); i += 2 {
		l = append(l, api.Pair{Name: texts[i], Value: texts[i+1]})
	}
	return l
}

func parsed(t *testing.T, body string) []api.Pair {
	t.Helper()
	l, e, at := urlform.Parse(body)
	if e != api.OK || at != 0 {
		t.Fatalf("Parse(%.40q): %d %d", body, e, at)
	}
	return l
}

func scopesOf(t *testing.T, text string) []string {
	t.Helper()
	l, e := urlform.Scopes(text)
	if e != api.OK {
		t.Fatalf("Scopes(%q): %d", text, e)
	}
	return l
}

func isParsed(t *testing.T, body string, want []api.Pair) {
	t.Helper()
	if l := parsed(t, body); !slices.Equal(l, want) {
		t.Errorf("Parse(%.40q): %q, not %q", body, l, want)
	}
}

// isRefused: body has no pairs, and that fault at that place.
func isRefused(t *testing.T, body string, fault api.Errno, place int) {
	t.Helper()
	if l, e, at := urlform.Parse(body); len(l) != 0 || e != fault || at != place {
		t.Errorf("Parse(%.40q): %d pairs, %d %d, not %d %d", body, len(l), e, at, fault, place)
	}
}

func isText(t *testing.T, s, want string) {
	t.Helper()
	if v, e, at := urlform.Unescape(s); v != want || e != api.OK || at != 0 {
		t.Errorf("Unescape(%q): %q %d %d, not %q", s, v, e, at, want)
	}
}

// isNoText: s is refused with that fault at that place.
func isNoText(t *testing.T, s string, fault api.Errno, place int) {
	t.Helper()
	if v, e, at := urlform.Unescape(s); v != "" || e != fault || at != place {
		t.Errorf("Unescape(%q): %q %d %d, not %d %d", s, v, e, at, fault, place)
	}
}

// names is count scopes that differ, in no rising order.
func names(count int) []string {
	l := []string{}
	for i := range count {
		l = append(l, "s"+strings.Repeat("z", i/26)+string(rune('z'-i%26)))
	}
	return l
}

// allBytes is a text of each byte once.
func allBytes() string {
	p := make([]byte, 256)
	for i := range p {
		p[i] = byte(i)
	}
	return string(p)
}
