package codes_test

import (
	"bytes"
	"math/rand"
	"strings"
	"testing"

	"wicket/api"
	"wicket/codes"
)

// twenty are the letters of user codes, by their numbers.
const twenty = "BCDFGHJKLMNPQRSTVWXZ"

// rising are so many bytes that count up from first on, round and round.
func rising(first, n int) []byte {
	p := make([]byte, n)
	for i := range p {
		p[i] = byte(first + i)
	}
	return p
}

func randomBytes(r *rand.Rand, n int) []byte {
	p := make([]byte, n)
	r.Read(p)
	return p
}

// randomCode is a user code, made without the package.
func randomCode(r *rand.Rand) string {
	var b strings.Builder
	for range 8 {
		b.WriteByte(twenty[r.Intn(20)])
	}
	return b.String()
}

// rest draws all that the source has left.
func rest(t *testing.T, s *codes.Source) []byte {
	t.Helper()
	var all []byte
	for n := s.Left(); n > 0; n-- {
		b, e := s.Byte()
		if e != api.OK || s.Left() != n-1 {
			t.Fatalf("Byte with %d left: %d, %d, %d left", n, b, e, s.Left())
		}
		all = append(all, b)
	}
	dry(t, s)
	return all
}

// dry: the source has nothing more.
func dry(t *testing.T, s *codes.Source) {
	t.Helper()
	if b, e := s.Byte(); b != 0 || e != api.ErrDry || s.Left() != 0 {
		t.Errorf("Byte of none: %d, %d, %d left", b, e, s.Left())
	}
}

// holds: the source has these bytes left, in this order; it is dry behind it.
func holds(t *testing.T, what string, s *codes.Source, want []byte) {
	t.Helper()
	if got := rest(t, s); !bytes.Equal(got, want) {
		t.Errorf("%s: %d bytes %.60x, not %d bytes %.60x", what, len(got), got, len(want), want)
	}
}

// maker is Device, Auth or User.
type maker func(*codes.Source) (string, api.Errno)

// makes: the call with a source of these draws has that answer, and so many bytes are left behind it.
func makes(t *testing.T, what string, m maker, draws []byte, code string, e api.Errno, left int) {
	t.Helper()
	s := codes.NewSource(draws)
	if c, f := m(s); c != code || f != e || s.Left() != left {
		t.Errorf("%s of %.60x: %q, %d, %d left, not %q, %d, %d left", what, draws, c, f, s.Left(), code, e, left)
		return
	}
	holds(t, what, s, draws[len(draws)-left:])
}

func normal(t *testing.T, typed, code string, e api.Errno) {
	t.Helper()
	if c, f := codes.Normal(typed); c != code || f != e {
		t.Errorf("Normal(%q): %q, %d, not %q, %d", typed, c, f, code, e)
	}
}

func shows(t *testing.T, code, want string) {
	t.Helper()
	if s := codes.Show(code); s != want {
		t.Errorf("Show(%q): %q, not %q", code, s, want)
	}
}

func long(n int) string { return strings.Repeat("x", n) }
