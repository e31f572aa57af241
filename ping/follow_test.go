package ping_test

import (
	"math/rand"
	"slices"
	"testing"

	"wicket/api"
	"wicket/ping"
)

// attemptsOf makes the attempts of a delivery when they are due, all of which fail, and tells when they were made.
func attemptsOf(t *testing.T, o *ping.Outbox, number uint64) []uint64 {
	t.Helper()
	var times []uint64
	for len(times) <= api.MaxAttempts {
		now, some := o.Next()
		if !some {
			return times
		}
		due(t, o, now, number)
		times = append(times, now)
		if _, _, e := o.Outcome(number, api.OutcomeFailed, now); e != api.OK {
			t.Fatal(e)
		}
	}
	t.Fatal("it does not end")
	return nil
}

// P13.9: what fails each time is tried just Attempts times, no less than First and no more than Most seconds apart, and never sooner than the time before.
func TestPace(t *testing.T) {
	r := rand.New(rand.NewSource(9))
	for range 2000 {
		p := drawnPolicy(r)
		o := made(t, p)
		owe(t, o, 7, 0, drawnTime(r), api.OK)
		times := attemptsOf(t, o, 7)
		if len(times) != p.Attempts {
			t.Fatalf("%v: tried at %v", p, times)
		}
		before := uint64(0)
		for i := 1; i < len(times) && times[i] < last; i++ { // what the last second cuts off is apart
			gap := times[i] - times[i-1]
			if times[i] < times[i-1] || gap < p.First || gap > p.Most || gap < before {
				t.Fatalf("%v: tried at %v", p, times)
			}
			before = gap
		}
		if !slices.IsSorted(times) {
			t.Fatalf("%v: tried at %v", p, times)
		}
	}
}

// P13.9: the attempts that were made ahead of Owe count among the Attempts.
func TestPaceFromTries(t *testing.T) {
	for tries := range api.MaxAttempts {
		o := made(t, api.Policy{Attempts: api.MaxAttempts, First: 1, Most: 1000})
		owe(t, o, 7, tries, 50, api.OK)
		if times := attemptsOf(t, o, 7); len(times) != api.MaxAttempts-tries {
			t.Errorf("behind %d tries, tried at %v", tries, times)
		}
	}
}

// P13.9: once it is done, stopped or given up, a number is owed no more, until it is owed anew; then it has all its attempts.
func TestOwedAnew(t *testing.T) {
	for _, outcomes := range [][]int{{0, 1}, {2}, {0, 0, 0, 0}} {
		o := made(t, example)
		owe(t, o, 7, 0, 10, api.OK)
		for i, outcome := range outcomes {
			if d, _, e := o.Outcome(7, outcome, 100); e != api.OK || d.Tries != i+1 {
				t.Fatalf("%v: %v, %d", outcomes, d, e)
			}
		}
		for outcome := range 3 {
			refuses(t, o, 7, outcome, 200, api.ErrNone)
		}
		owed(t, o)
		drops(t, o, 7, false)
		owe(t, o, 7, 0, 300, api.OK)
		if times := attemptsOf(t, o, 7); !slices.Equal(times, []uint64{300, 302, 306, 311}) {
			t.Errorf("%v: tried at %v", outcomes, times)
		}
	}
}

// P13.10: with whatever number of workers, and as often as it is asked, the answer is one.
func TestOneAnswerForAllWorkers(t *testing.T) {
	jobs := drawnJobs(rand.New(rand.NewSource(10)), 300, 40)
	want, e := ping.Deliver(jobs, 1)
	if e != api.OK || !slices.Contains(want, api.JobStopped) {
		t.Fatalf("%v, %d", want, e)
	}
	delivers(t, jobs, 30, want...)
}

// P13.10: without a stop, each job's answer is the one that it has alone.
func TestJobsWithoutAStopAreApart(t *testing.T) {
	r := rand.New(rand.NewSource(11))
	jobs := many(200)
	var want []int
	for i := range jobs {
		for range r.Intn(6) {
			jobs[i].Outcomes = append(jobs[i].Outcomes, r.Intn(4)/3)
		}
		alone, e := ping.Deliver(jobs[i:i+1], 1)
		if len(alone) != 1 || e != api.OK {
			t.Fatalf("%v: %v, %d", jobs[i], alone, e)
		}
		want = append(want, alone[0])
	}
	delivers(t, jobs, 3, want...)
	r.Shuffle(len(jobs), func(i, j int) {
		jobs[i], jobs[j] = jobs[j], jobs[i]
		want[i], want[j] = want[j], want[i]
	})
	delivers(t, jobs, 3, want...)
}
