package ping_test

import (
	"cmp"
	"math/big"
	"math/rand"
	"slices"
	"testing"

	"wicket/api"
	"wicket/ping"
)

// slow is an outbox by the chapter's words: a list that is gone over each time, with times as numbers without an end.
type slow struct {
	policy api.Policy
	list   []api.Delivery
}

// backoff is what is waited: First, doubled one time after the other.
func (s *slow) backoff(tries int) *big.Int {
	wait, most := new(big.Int).SetUint64(s.policy.First), new(big.Int).SetUint64(s.policy.Most)
	for range tries - 1 {
		wait.Add(wait, wait)
	}
	if wait.Cmp(most) > 0 {
		return most
	}
	return wait
}

func (s *slow) place(number uint64) int {
	return slices.IndexFunc(s.list, func(d api.Delivery) bool { return d.Number == number })
}

func (s *slow) Owe(d api.Delivery) api.Errno {
	switch {
	case d.Tries < 0 || d.Tries >= s.policy.Attempts:
		return api.ErrArg
	case s.place(d.Number) >= 0:
		return api.ErrThere
	case len(s.list) == 4096:
		return api.ErrFull
	}
	s.list = append(s.list, d)
	return api.OK
}

func (s *slow) sorted(less func(a, b api.Delivery) int) []api.Delivery {
	list := slices.Clone(s.list)
	slices.SortFunc(list, less)
	return list
}

func byNumber(a, b api.Delivery) int { return cmp.Compare(a.Number, b.Number) }

func byDue(a, b api.Delivery) int { return cmp.Or(cmp.Compare(a.Due, b.Due), byNumber(a, b)) }

func (s *slow) Due(now uint64) []uint64 {
	var numbers []uint64
	for _, d := range s.sorted(byDue) {
		if d.Due <= now {
			numbers = append(numbers, d.Number)
		}
	}
	return numbers
}

func (s *slow) Next() (uint64, bool) {
	if len(s.list) == 0 {
		return 0, false
	}
	return s.sorted(byDue)[0].Due, true
}

func (s *slow) Outcome(number uint64, outcome int, now uint64) (api.Delivery, int, api.Errno) {
	at := s.place(number)
	switch {
	case at < 0:
		return api.Delivery{}, 0, api.ErrNone
	case outcome < 0 || outcome > 2:
		return api.Delivery{}, 0, api.ErrOutcome
	}
	s.list[at].Tries++
	d := s.list[at]
	if outcome == 0 && d.Tries < s.policy.Attempts {
		sum := new(big.Int).Add(new(big.Int).SetUint64(now), s.backoff(d.Tries))
		d.Due = last
		if sum.IsUint64() {
			d.Due = sum.Uint64()
		}
		s.list[at] = d
		return d, 0, api.OK
	}
	s.list = slices.Delete(s.list, at, at+1)
	return d, []int{2, 1, 3}[outcome], api.OK
}

func (s *slow) Drop(number uint64) bool {
	at := s.place(number)
	if at < 0 {
		return false
	}
	s.list = slices.Delete(s.list, at, at+1)
	return true
}

// drawnTime is a time near the beginning, the middle or the last second.
func drawnTime(r *rand.Rand) uint64 {
	n := uint64(r.Intn(12))
	return []uint64{n, n, 1<<63 - 6 + n, last - n}[r.Intn(4)]
}

func drawnPolicy(r *rand.Rand) api.Policy {
	first := max(drawnTime(r), 1)
	most := max(drawnTime(r), first)
	return api.Policy{Attempts: 1 + r.Intn(1+r.Intn(20)), First: first, Most: most}
}

// step does one drawn call on both, and asks that they answer the same.
func step(t *testing.T, r *rand.Rand, o *ping.Outbox, s *slow) {
	t.Helper()
	number := uint64(r.Intn(10))
	now := drawnTime(r)
	switch r.Intn(7) {
	case 0, 1, 2:
		d := api.Delivery{Number: number, Tries: r.Intn(s.policy.Attempts+2) - 1, Due: now}
		owe(t, o, d.Number, d.Tries, d.Due, s.Owe(d))
	case 3, 4, 5:
		outcome := []int{0, 0, 0, 0, 0, 0, 1, 2, 3, -1}[r.Intn(10)]
		d, job, e := s.Outcome(number, outcome, now)
		comes(t, o, number, outcome, now, d, job, e)
	case 6:
		drops(t, o, number, s.Drop(number))
	}
}

// P13.1 to P13.6: an outbox held against the slow one, over drawn calls.
func TestOutboxAgainstASlowOne(t *testing.T) {
	for seed := range int64(300) {
		r := rand.New(rand.NewSource(seed))
		p := drawnPolicy(r)
		o, s := made(t, p), &slow{policy: p}
		for range 60 {
			step(t, r, o, s)
			now := drawnTime(r)
			due(t, o, now, s.Due(now)...)
			due(t, o, last, s.Due(last)...)
			owed(t, o, s.sorted(byNumber)...)
			at, some := s.Next()
			next(t, o, at, some)
		}
		if t.Failed() {
			t.Fatalf("seed %d, policy %v", seed, p)
		}
	}
}

// slowDeliver makes the jobs one behind the other, by the chapter's words.
func slowDeliver(jobs []api.Job) []int {
	became := make([]int, len(jobs))
	for i, job := range jobs {
		became[i] = 2
		for _, outcome := range job.Outcomes {
			if outcome != 0 {
				became[i] = map[int]int{1: 1, 2: 3}[outcome]
				break
			}
		}
		if became[i] == 3 {
			break
		}
	}
	return became
}

// drawnJobs are jobs of which each stops with the likelihood of one in so many, or never with 0.
func drawnJobs(r *rand.Rand, count, stops int) []api.Job {
	jobs := many(count)
	for i := range jobs {
		for range r.Intn(5) {
			jobs[i].Outcomes = append(jobs[i].Outcomes, max(0, r.Intn(5)-3))
		}
		if stops > 0 && r.Intn(stops) == 0 {
			jobs[i].Outcomes = append(jobs[i].Outcomes, 2, r.Intn(3))
		}
	}
	return jobs
}

// P13.8 and P13.10: a batch held against the slow way, with every number of workers, over drawn jobs.
func TestDeliverAgainstASlowWay(t *testing.T) {
	for seed := range int64(60) {
		r := rand.New(rand.NewSource(seed))
		count := []int{1, 2, 3, 17, 100, api.MaxJobs}[seed%6]
		jobs := drawnJobs(r, count, r.Intn(2*count))
		delivers(t, jobs, 2, slowDeliver(jobs)...)
	}
}
