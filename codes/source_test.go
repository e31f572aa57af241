package codes_test

import (
	"bytes"
	"math/rand"
	"slices"
	"testing"

	"wicket/api"
	"wicket/codes"
)

// P9.1: the bytes come in their order, each once, and then no more.
func TestBytesInTheirOrder(t *testing.T) {
	for _, n := range []int{0, 1, 2, 3, 32, 255, 256, 257, 1000, 4095, 4096} {
		draws := rising(7, n)
		s := codes.NewSource(draws)
		if s == nil || s.Left() != n {
			t.Fatalf("NewSource of %d bytes: %v", n, s)
		}
		holds(t, "NewSource", s, draws)
		dry(t, s)
	}
	holds(t, "NewSource(nil)", codes.NewSource(nil), nil)
}

// P9.1: a byte 0 is told from none by its error.
func TestByteZero(t *testing.T) {
	s := codes.NewSource([]byte{0})
	if b, e := s.Byte(); b != 0 || e != api.OK {
		t.Errorf("Byte: %d, %d", b, e)
	}
	dry(t, s)
}

// P9.1: Left changes nothing.
func TestLeftChangesNothing(t *testing.T) {
	s := codes.NewSource([]byte{3, 4})
	for range 5 {
		if s.Left() != 2 {
			t.Fatalf("Left: %d", s.Left())
		}
	}
	holds(t, "behind Left", s, []byte{3, 4})
}

// P9.1: of the first list the first MaxDraws.
func TestFirstListIsCut(t *testing.T) {
	for _, n := range []int{4096, 4097, 4098, 5000, 8192, 100000} {
		draws := rising(1, n)
		s := codes.NewSource(draws)
		if s.Left() != 4096 {
			t.Errorf("NewSource of %d bytes: %d left", n, s.Left())
		}
		holds(t, "NewSource of too many", s, draws[:4096])
	}
}

// P9.1: what is fed comes behind what is left, and of it as much as there is room for.
func TestFeed(t *testing.T) {
	for _, first := range []int{0, 1, 100, 4000, 4095, 4096} {
		for _, used := range []int{0, 1, 50, 4096} {
			used = min(used, first)
			for _, fed := range []int{0, 1, 2, 95, 96, 97, 4095, 4096, 4097, 9000} {
				draws, more := rising(0, first), rising(101, fed)
				s := codes.NewSource(draws)
				for range used {
					s.Byte()
				}
				s.Feed(more)
				room := 4096 - (first - used)
				want := slices.Concat(draws[used:], more[:min(fed, room)])
				if s.Left() != len(want) {
					t.Errorf("%d, %d of them used, %d fed: %d left", first, used, fed, s.Left())
				}
				holds(t, "Feed", s, want)
			}
		}
	}
}

// P9.1: a source that ran dry goes on with what it is fed, and one that was full takes more when it has room; what was let go does not come.
func TestFeedAgain(t *testing.T) {
	s := codes.NewSource(nil)
	dry(t, s)
	s.Feed([]byte{5})
	holds(t, "fed when dry", s, []byte{5})
	s.Feed(nil)
	s.Feed([]byte{})
	dry(t, s)
	s.Feed(rising(0, 4097))
	s.Feed([]byte{77})
	if b, e := s.Byte(); b != 0 || e != api.OK {
		t.Errorf("Byte: %d, %d", b, e)
	}
	s.Feed([]byte{88, 99})
	if s.Left() != 4096 {
		t.Errorf("Left: %d", s.Left())
	}
	holds(t, "fed when full", s, append(rising(1, 4095), 88))
}

// P9.1: a nil Source has no bytes, and Feed does nothing to it.
func TestNilSource(t *testing.T) {
	var s *codes.Source
	for range 3 {
		dry(t, s)
		for what, m := range map[string]maker{"Device": codes.Device, "Auth": codes.Auth, "User": codes.User} {
			if c, e := m(s); c != "" || e != api.ErrDry {
				t.Errorf("%s(nil): %q, %d", what, c, e)
			}
		}
		s.Feed(nil)
		s.Feed(rising(0, 5000))
	}
}

// P9.1: two sources have nothing in common.
func TestSourcesAreTheirOwn(t *testing.T) {
	draws := rising(0, 40)
	a, b := codes.NewSource(draws), codes.NewSource(draws)
	codes.Device(a)
	if b.Left() != 40 {
		t.Errorf("%d left of another source", b.Left())
	}
	a.Feed([]byte{200})
	b.Feed([]byte{100})
	holds(t, "the first", a, append(rising(32, 8), 200))
	holds(t, "the second", b, append(rising(0, 40), 100))
}

// P9.1: over drawn calls a source is a list of which the first is taken, cut at MaxDraws.
func TestSourceIsAList(t *testing.T) {
	full := 0
	for seed := range int64(60) {
		r := rand.New(rand.NewSource(seed))
		list := randomBytes(r, r.Intn(5000))
		s := codes.NewSource(list)
		list = list[:min(4096, len(list))]
		for range 300 {
			if r.Intn(3) == 0 {
				more := randomBytes(r, r.Intn(1+r.Intn(3000)))
				s.Feed(more)
				list = append(list, more...)
				if len(list) > 4096 {
					list = list[:4096]
					full++
				}
			}
			for range r.Intn(1 + r.Intn(1000)) {
				want, e := byte(0), api.ErrDry
				if len(list) > 0 {
					want, e, list = list[0], api.OK, list[1:]
				}
				if b, f := s.Byte(); b != want || f != e {
					t.Fatalf("seed %d: Byte: %d, %d, not %d, %d", seed, b, f, want, e)
				}
			}
			if s.Left() != len(list) {
				t.Fatalf("seed %d: %d left, not %d", seed, s.Left(), len(list))
			}
		}
		holds(t, "a list", s, list)
	}
	if full < 100 {
		t.Errorf("a source was full %d times", full)
	}
}

// P9.9: feeding in pieces is feeding at once.
func TestFeedInPieces(t *testing.T) {
	for seed := range int64(200) {
		r := rand.New(rand.NewSource(seed))
		draws := randomBytes(r, r.Intn(4097))
		if seed == 0 {
			draws = randomBytes(r, 4096)
		}
		pieces, whole := codes.NewSource(nil), codes.NewSource(nil)
		whole.Feed(draws)
		for p := draws; len(p) > 0; {
			n := min(len(p), r.Intn(1+r.Intn(500)))
			pieces.Feed(p[:n])
			p = p[n:]
		}
		if pieces.Left() != whole.Left() || whole.Left() != len(draws) {
			t.Fatalf("seed %d: %d left, at once %d, of %d", seed, pieces.Left(), whole.Left(), len(draws))
		}
		for _, m := range []maker{codes.User, codes.Device, codes.Auth, codes.User} {
			c, e := m(pieces)
			if d, f := m(whole); c != d || e != f {
				t.Fatalf("seed %d: %q, %d, at once %q, %d", seed, c, e, d, f)
			}
		}
		if !bytes.Equal(rest(t, pieces), rest(t, whole)) {
			t.Fatalf("seed %d: what is left differs", seed)
		}
	}
}

// P9.9: the last piece may go beyond what there is room for: its beginning is taken, as at once.
func TestLastPieceIsCut(t *testing.T) {
	draws := rising(3, 4200)
	for _, n := range []int{0, 1, 104, 4000, 4095} {
		s := codes.NewSource(draws[:n])
		s.Feed(draws[n:])
		holds(t, "pieces", s, draws[:4096])
	}
}
