package limit_test

import (
	"fmt"
	"math/bits"
	"math/rand"
	"slices"
	"testing"

	"wicket/api"
)

// slow is a limit by the chapter's words: a list of all windows that ever began, gone over each time, with their ends as sums of two words.
type slow struct {
	tries    int
	window   uint64
	subjects int
	clock    uint64
	windows  []slowWindow
}

type slowWindow struct {
	subject string
	since   uint64
	count   int
}

// until is how many seconds go by from the clock till a window is over, and whether it is open.
func (s *slow) until(w slowWindow) (uint64, bool) {
	low, high := bits.Add64(w.since, s.window, 0)
	rest, borrow := bits.Sub64(low, s.clock, 0)
	over := high == 0 && (borrow == 1 || rest == 0)
	return rest, !over
}

// open are the places of the windows that are open at the clock.
func (s *slow) open() []int {
	var list []int
	for i, w := range s.windows {
		if _, is := s.until(w); is {
			list = append(list, i)
		}
	}
	return list
}

// own is the place of a subject's open window, or -1.
func (s *slow) own(subject string) int {
	for _, i := range s.open() {
		if s.windows[i].subject == subject {
			return i
		}
	}
	return -1
}

func (s *slow) Try(subject string, now uint64) (int, api.Errno) {
	if len(subject) > 256 {
		return 0, api.ErrLong
	}
	s.clock = max(s.clock, now)
	i := s.own(subject)
	switch {
	case i >= 0 && s.windows[i].count == s.tries:
		return 0, api.ErrSpent
	case i < 0 && len(s.open()) == s.subjects:
		return 0, api.ErrFull
	case i < 0:
		i = len(s.windows)
		s.windows = append(s.windows, slowWindow{subject, s.clock, 0})
	}
	s.windows[i].count++
	return s.tries - s.windows[i].count, api.OK
}

// copied is a slow limit of its own, to try on.
func (s *slow) copied() *slow {
	c := *s
	c.windows = slices.Clone(s.windows)
	return &c
}

func (s *slow) Left(subject string, now uint64) int {
	c, n := s.copied(), 0
	for {
		if _, e := c.Try(subject, now); e != api.OK {
			return n
		}
		n++
	}
}

func (s *slow) Wait(subject string, now uint64) uint64 {
	c := s.copied()
	var least uint64
	switch _, e := c.Try(subject, now); e {
	case api.ErrSpent:
		least, _ = c.until(c.windows[c.own(subject)])
	case api.ErrFull:
		least = last
		for _, i := range c.open() {
			rest, _ := c.until(c.windows[i])
			least = min(least, rest)
		}
	}
	return least
}

func (s *slow) Forgive(subject string) bool {
	i := s.own(subject)
	if i < 0 {
		return false
	}
	s.windows = slices.Delete(s.windows, i, i+1)
	return true
}

func (s *slow) Sweep(now uint64) int {
	s.clock = max(s.clock, now)
	return len(s.open())
}

func (s *slow) Subjects() []string {
	var list []string
	for _, i := range s.open() {
		list = append(list, s.windows[i].subject)
	}
	slices.Sort(list)
	return list
}

func (s *slow) Clear() {
	*s = slow{tries: s.tries, window: s.window, subjects: s.subjects}
}

// people are the subjects of drawn calls.
var people = []string{"a", "b", "", "\xff", "ab", "e", "f", long(256), long(257)}

// plan is how a limit of drawn calls is made, and at about which time it is used.
type plan struct {
	tries    int
	window   uint64
	subjects int
	now      uint64
}

func drawnPlan(r *rand.Rand) plan {
	p := plan{1 + r.Intn(4), 1 + uint64(r.Intn(12)), 1 + r.Intn(5), uint64(r.Intn(30))}
	switch r.Intn(5) {
	case 0:
		p.window = 1 + r.Uint64()>>r.Intn(64)>>1
	case 1:
		p.window = last - uint64(r.Intn(20))
	}
	switch r.Intn(4) {
	case 0:
		p.now = last - uint64(r.Intn(30))
	case 1:
		p.now = r.Uint64() >> r.Intn(64)
	}
	return p
}

// drawnTime is near p.now, at times behind a window's end or at an end of all times.
func (p *plan) drawnTime(r *rand.Rand) uint64 {
	now := p.now
	switch r.Intn(40) {
	case 0, 1, 2:
		now -= min(now, uint64(r.Intn(20)))
	case 3, 4:
		now = later(now, p.window-uint64(r.Intn(2)))
	case 5:
		now = later(now, p.window/uint64(1+r.Intn(4)))
	case 6:
		return last
	case 7:
		return 0
	default:
		now = later(now, uint64(r.Intn(3)))
	}
	p.now = max(p.now, now)
	return now
}

// later is a sum, or the last second.
func later(now, more uint64) uint64 {
	sum, carry := bits.Add64(now, more, 0)
	if carry == 1 {
		return last
	}
	return sum
}

// drawnCall does one of the calls, and says which, and what it answered.
func drawnCall(r *rand.Rand, p *plan, l limits) string {
	subject, now := people[r.Intn(len(people))], p.drawnTime(r)
	said := fmt.Sprintf("of %.5q, %d: ", subject, now)
	switch r.Intn(24) {
	case 0:
		return "Forgive " + said + fmt.Sprint(l.Forgive(subject))
	case 1:
		return "Sweep " + said + fmt.Sprint(l.Sweep(now))
	case 2, 3:
		return "Left " + said + fmt.Sprint(l.Left(subject, now))
	case 4, 5:
		return "Wait " + said + fmt.Sprint(l.Wait(subject, now))
	case 6:
		if r.Intn(6) == 0 {
			l.Clear()
			return "Clear"
		}
	}
	left, e := l.Try(subject, now)
	return "Try " + said + fmt.Sprint(left, e)
}

// P8.1 to P8.4: limit and slow limit answer the same, whatever is done.
func TestIsTheSlowLimit(t *testing.T) {
	for seed := range int64(300) {
		r := rand.New(rand.NewSource(seed))
		p := drawnPlan(r)
		l, s := made(t, p.tries, p.window, p.subjects), &slow{tries: p.tries, window: p.window, subjects: p.subjects}
		q := p
		for range 100 {
			draw := r.Int63()
			said := drawnCall(rand.New(rand.NewSource(draw)), &p, l)
			want := drawnCall(rand.New(rand.NewSource(draw)), &q, s)
			if said != want {
				t.Fatalf("seed %d, %v: %s, not %s", seed, p, said, want)
			}
			at := p.now + uint64(r.Intn(6)) // round, at the end of all times
			if a, b := look(l, people, 0, at), look(s, people, 0, at); a != b {
				t.Fatalf("seed %d, %v, behind %s\n%s\nnot\n%s", seed, p, said, a, b)
			}
		}
	}
}
