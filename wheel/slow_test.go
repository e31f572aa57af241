package wheel_test

import (
	"fmt"
	"math/rand"
	"slices"
	"testing"

	"wicket/api"
	"wicket/wheel"
)

// slow is a wheel by the chapter's words, without rings: a list of timers that is gone over each time.
type slow struct {
	now    uint64
	timers []pair
}

func (s *slow) index(id uint64) int {
	return slices.IndexFunc(s.timers, func(p pair) bool { return p.id == id })
}

func (s *slow) Add(id uint64, at uint64) api.Errno {
	switch {
	case s.index(id) >= 0:
		return api.ErrThere
	case at <= s.now:
		return api.ErrGone
	case len(s.timers) >= 8192:
		return api.ErrFull
	}
	s.timers = append(s.timers, pair{id, at})
	return api.OK
}

func (s *slow) Remove(id uint64) api.Errno {
	i := s.index(id)
	if i < 0 {
		return api.ErrNone
	}
	s.timers = slices.Delete(s.timers, i, i+1)
	return api.OK
}

func (s *slow) At(id uint64) (uint64, bool) {
	i := s.index(id)
	if i < 0 {
		return 0, false
	}
	return s.timers[i].at, true
}

// first is the timer that comes ahead of all others, by its time and then by its id.
func (s *slow) first() (pair, bool) {
	if len(s.timers) == 0 {
		return pair{}, false
	}
	first := s.timers[0]
	for _, p := range s.timers {
		if p.at < first.at || p.at == first.at && p.id < first.id {
			first = p
		}
	}
	return first, true
}

func (s *slow) Advance(to uint64) ([]uint64, api.Errno) {
	if to < s.now {
		return nil, api.ErrGone
	}
	s.now = to
	var ids []uint64
	for {
		p, some := s.first()
		if !some || p.at > to {
			return ids, api.OK
		}
		ids = append(ids, p.id)
		s.Remove(p.id)
	}
}

func (s *slow) Next() (uint64, bool) {
	p, some := s.first()
	return p.at, some
}

func (s *slow) Now() uint64 { return s.now }

func (s *slow) Len() int { return len(s.timers) }

// digitsOf writes a time with digits of base 64, the lowest first.
func digitsOf(time uint64) [11]uint64 {
	var list [11]uint64
	for i := range list {
		list[i] = time % 64
		time /= 64
	}
	return list
}

func slowRing(at, now uint64) int {
	a, b := digitsOf(at), digitsOf(now)
	highest := 0
	for i := range a {
		if a[i] != b[i] {
			highest = i
		}
	}
	return min(highest, 4)
}

func (s *slow) Spread() [5]int {
	var spread [5]int
	for _, p := range s.timers {
		spread[slowRing(p.at, s.now)]++
	}
	return spread
}

func (s *slow) pairs() []pair {
	list := slices.Clone(s.timers)
	slices.SortFunc(list, func(a, b pair) int {
		if a.id < b.id {
			return -1
		}
		return 1
	})
	return list
}

// drawnSpan is how far a drawn time lies from now: within a ring, at its edge, or anywhere.
func drawnSpan(r *rand.Rand) uint64 {
	switch r.Intn(4) {
	case 0:
		return uint64(r.Intn(4))
	case 1:
		return 1<<r.Intn(64) + uint64(r.Intn(3)) - 1
	case 2:
		return r.Uint64() >> r.Intn(64)
	}
	return r.Uint64() >> (34 + r.Intn(30))
}

// drawnTime is mostly one that is to come, at times one whose low digits are all 0 or all 63.
func drawnTime(r *rand.Rand, now uint64) uint64 {
	at := wheel.Later(now, drawnSpan(r))
	cut := uint64(1)<<(6*r.Intn(6)) - 1
	switch r.Intn(8) {
	case 0:
		return at | cut
	case 1:
		return at &^ cut
	case 2:
		return now - min(now, drawnSpan(r))
	}
	return at
}

func drawnStart(r *rand.Rand) uint64 {
	switch r.Intn(4) {
	case 0:
		return 0
	case 1:
		return last - drawnSpan(r)>>r.Intn(64)
	}
	return drawnSpan(r)
}

// drawnCall does one of the calls that change something, and says which, and what it answered.
func drawnCall(r *rand.Rand, w wheels) string {
	id := uint64(r.Intn(40))
	if r.Intn(10) == 0 {
		id = last - id
	}
	switch r.Intn(8) {
	case 0:
		return fmt.Sprint("Remove ", id, " ", w.Remove(id))
	case 1:
		to := drawnTime(r, w.Now())
		ids, e := w.Advance(to)
		return fmt.Sprint("Advance ", to, " ", ids, e)
	case 2:
		if next, some := w.Next(); some {
			to := next - uint64(r.Intn(2))
			ids, e := w.Advance(to)
			return fmt.Sprint("Advance to the next ", to, " ", ids, e)
		}
	}
	at := drawnTime(r, w.Now())
	return fmt.Sprint("Add ", id, " ", at, " ", w.Add(id, at))
}

// P7.1 to P7.5: wheel and slow wheel answer the same, whatever is done.
func TestIsTheSlowWheel(t *testing.T) {
	for seed := range int64(400) {
		r := rand.New(rand.NewSource(seed))
		now := drawnStart(r)
		w, s := plain{wheel.New(now)}, &slow{now: now}
		for range 120 {
			draw := r.Int63()
			said := drawnCall(rand.New(rand.NewSource(draw)), w)
			want := drawnCall(rand.New(rand.NewSource(draw)), s)
			if said != want || look(w) != look(s) {
				t.Fatalf("seed %d: %s, not %s\n%s\nnot\n%s", seed, said, want, look(w), look(s))
			}
			for range 3 {
				id := uint64(r.Intn(40))
				at, there := w.At(id)
				if wantAt, wantThere := s.At(id); at != wantAt || there != wantThere {
					t.Fatalf("seed %d: At(%d): %d, %v", seed, id, at, there)
				}
			}
		}
	}
}

// P7.3, P7.5: and with every second gone by, over the edges of rings 0, 1 and 2.
func TestSecondBySecond(t *testing.T) {
	for _, start := range []uint64{0, 4096 - 100, 262144 - 200, 16777216 - 300, 1<<32 - 150, last - 9000} {
		r := rand.New(rand.NewSource(int64(start)))
		w, s := plain{wheel.New(start)}, &slow{now: start}
		for id := range uint64(200) {
			at := wheel.Later(start, 1+id*id%8900)
			is(t, "Add", w.Add(id, at), s.Add(id, at))
		}
		for now := start; now < wheel.Later(start, 9000); now++ {
			ids, e := w.Advance(now)
			want, _ := s.Advance(now)
			if e != api.OK || !slices.Equal(ids, want) || w.Spread() != s.Spread() {
				t.Fatalf("Advance(%d): %v, %d, not %v; %v, not %v", now, ids, e, want, w.Spread(), s.Spread())
			}
			if r.Intn(50) == 0 && look(w) != look(s) {
				t.Fatalf("%s\nnot\n%s", look(w), look(s))
			}
		}
	}
}
