package ping_test

import (
	"math"
	"slices"
	"testing"

	"wicket/api"
	"wicket/ping"
)

// last is the last second.
const last = math.MaxUint64

// example is the policy of the chapter's examples.
var example = api.Policy{Attempts: 4, First: 2, Most: 5}

func made(t *testing.T, p api.Policy) *ping.Outbox {
	t.Helper()
	o, e := ping.New(p)
	if o == nil || e != api.OK {
		t.Fatalf("New(%v): %v, %d", p, o, e)
	}
	return o
}

// waits asks what Backoff answers.
func waits(t *testing.T, p api.Policy, tries int, want uint64, wantE api.Errno) {
	t.Helper()
	if n, e := ping.Backoff(p, tries); n != want || e != wantE {
		t.Errorf("Backoff(%v, %d): %d, %d, not %d, %d", p, tries, n, e, want, wantE)
	}
}

func owe(t *testing.T, o *ping.Outbox, number uint64, tries int, due uint64, want api.Errno) {
	t.Helper()
	d := api.Delivery{Number: number, Tries: tries, Due: due}
	if e := o.Owe(d); e != want {
		t.Errorf("Owe(%v): %d, not %d", d, e, want)
	}
}

func due(t *testing.T, o *ping.Outbox, now uint64, want ...uint64) {
	t.Helper()
	if got := o.Due(now); !slices.Equal(got, want) {
		t.Errorf("Due(%d): %v, not %v", now, got, want)
	}
}

func next(t *testing.T, o *ping.Outbox, want uint64, wantSome bool) {
	t.Helper()
	if at, some := o.Next(); at != want || some != wantSome {
		t.Errorf("Next: %d, %v, not %d, %v", at, some, want, wantSome)
	}
}

func owed(t *testing.T, o *ping.Outbox, want ...api.Delivery) {
	t.Helper()
	if got := o.Owed(); !slices.Equal(got, want) {
		t.Errorf("Owed: %v, not %v", got, want)
	}
}

// comes tells how an attempt came out, and asks for what is answered.
func comes(t *testing.T, o *ping.Outbox, number uint64, outcome int, now uint64, want api.Delivery, wantJob int, wantE api.Errno) {
	t.Helper()
	if d, job, e := o.Outcome(number, outcome, now); d != want || job != wantJob || e != wantE {
		t.Errorf("Outcome(%d, %d, %d): %v, %d, %d, not %v, %d, %d", number, outcome, now, d, job, e, want, wantJob, wantE)
	}
}

// refuses is comes where there is an error.
func refuses(t *testing.T, o *ping.Outbox, number uint64, outcome int, now uint64, want api.Errno) {
	t.Helper()
	comes(t, o, number, outcome, now, api.Delivery{}, 0, want)
}

func drops(t *testing.T, o *ping.Outbox, number uint64, want bool) {
	t.Helper()
	if was := o.Drop(number); was != want {
		t.Errorf("Drop(%d): %v, not %v", number, was, want)
	}
}

// batch is a batch of jobs by their outcomes, numbered from 1.
func batch(outcomes ...[]int) []api.Job {
	var jobs []api.Job
	for i, list := range outcomes {
		jobs = append(jobs, api.Job{Number: uint64(i + 1), Outcomes: list})
	}
	return jobs
}

// many are so many jobs of the same outcomes.
func many(count int, outcomes ...int) []api.Job {
	return batch(slices.Repeat([][]int{outcomes}, count)...)
}

// delivers asks for what Deliver answers with every number of workers, some times over.
func delivers(t *testing.T, jobs []api.Job, times int, want ...int) {
	t.Helper()
	for workers := 1; workers <= api.MaxWorkers; workers++ {
		for range times {
			if got, e := ping.Deliver(jobs, workers); !slices.Equal(got, want) || e != api.OK {
				t.Fatalf("Deliver(%v, %d): %v, %d, not %v", jobs, workers, got, e, want)
			}
		}
	}
}

// wrong asks that Deliver answers none and ErrArg.
func wrong(t *testing.T, jobs []api.Job, workers int) {
	t.Helper()
	if got, e := ping.Deliver(jobs, workers); len(got) != 0 || e != api.ErrArg {
		t.Errorf("Deliver of %d jobs by %d: %v, %d, not ErrArg", len(jobs), workers, got, e)
	}
}
