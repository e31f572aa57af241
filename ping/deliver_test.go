package ping_test

import (
	"runtime"
	"slices"
	"strings"
	"sync"
	"testing"
	"time"

	"wicket/api"
	"wicket/ping"
)

// P13.8, the chapter's fifth example.
func TestDeliverExamples(t *testing.T) {
	delivers(t, batch([]int{0, 1}, nil, []int{2}, []int{1}), 50, api.JobDone, api.JobFailed, api.JobStopped, api.JobSkipped)
	delivers(t, nil, 1)
	delivers(t, []api.Job{}, 1)
	wrong(t, batch([]int{0, 1}), 0)
}

// P13.8: a job is over with its first outcome that is not failed; whatever stands behind is not tried.
func TestDeliverOneJob(t *testing.T) {
	for _, c := range []struct {
		outcomes []int
		want     int
	}{
		{nil, api.JobFailed},
		{[]int{}, api.JobFailed},
		{[]int{0}, api.JobFailed},
		{[]int{1}, api.JobDone},
		{[]int{2}, api.JobStopped},
		{[]int{0, 0, 0}, api.JobFailed},
		{[]int{0, 0, 1}, api.JobDone},
		{[]int{0, 0, 2}, api.JobStopped},
		{[]int{1, 2}, api.JobDone},
		{[]int{2, 1}, api.JobStopped},
		{[]int{1, 0}, api.JobDone},
		{[]int{0, 1, 2, 0}, api.JobDone},
		{[]int{0, 2, 1, 0}, api.JobStopped},
		{slices.Repeat([]int{0}, 5000), api.JobFailed},
		{append(slices.Repeat([]int{0}, 5000), 1), api.JobDone},
		{append(slices.Repeat([]int{0}, 5000), 2), api.JobStopped},
	} {
		delivers(t, batch(c.outcomes), 3, c.want)
	}
}

// P13.8: the number of a job says nothing; jobs of one number are jobs of their own.
func TestDeliverNumbers(t *testing.T) {
	jobs := []api.Job{{Number: 0, Outcomes: []int{1}}, {Number: last, Outcomes: []int{0}}, {Number: 0}, {Number: 0, Outcomes: []int{1}}}
	delivers(t, jobs, 5, api.JobDone, api.JobFailed, api.JobFailed, api.JobDone)
}

// P13.8: a stop in the first, a middle and the last job, with more behind it that would be done, fail, or stop too.
func TestDeliverStops(t *testing.T) {
	const count = 200
	for _, rest := range [][]int{{1}, {0, 1}, nil, {2}} {
		for _, at := range []int{0, 1, 7, count / 2, count - 2, count - 1} {
			jobs := many(count, 0, 1)
			jobs[at].Outcomes = []int{0, 2}
			want := slices.Repeat([]int{api.JobDone}, count)
			want[at] = api.JobStopped
			for i := at + 1; i < count; i++ {
				jobs[i].Outcomes = rest
				want[i] = api.JobSkipped
			}
			delivers(t, jobs, 4, want...)
		}
	}
}

// P13.8: a stop is told at the first job that has one, also where that job takes long and one behind it stops at once.
func TestDeliverSlowStop(t *testing.T) {
	jobs := many(40, 2)
	jobs[0].Outcomes = []int{0, 1}
	jobs[1].Outcomes = append(slices.Repeat([]int{0}, 20000), 1)
	jobs[2].Outcomes = append(slices.Repeat([]int{0}, 20000), 2)
	want := make([]int, 40)
	want[0], want[1], want[2] = api.JobDone, api.JobDone, api.JobStopped
	delivers(t, jobs, 10, want...)
}

// P13.8: 0, 1, MaxWorkers and one more workers; MaxJobs jobs and one more; outcomes that are none, whether or not they would be tried.
func TestDeliverWrong(t *testing.T) {
	jobs := batch([]int{1}, []int{0})
	for _, workers := range []int{-1 << 63, -1, 0, api.MaxWorkers + 1, 1<<63 - 1} {
		wrong(t, jobs, workers)
		wrong(t, nil, workers)
		wrong(t, many(api.MaxJobs+1, 3), workers)
	}
	for _, workers := range []int{1, api.MaxWorkers} {
		if _, e := ping.Deliver(jobs, workers); e != api.OK {
			t.Errorf("%d workers: %d", workers, e)
		}
		wrong(t, many(api.MaxJobs+1), workers)
		wrong(t, many(api.MaxJobs+1, 1), workers)
		for _, outcome := range []int{-1 << 63, -1, 3, 4, 1<<63 - 1} {
			wrong(t, batch([]int{outcome}), workers)
			wrong(t, batch([]int{1, outcome}), workers)
			wrong(t, batch([]int{2}, []int{1}, []int{0, 0, outcome}), workers)
		}
	}
}

// P13.8: MaxJobs jobs, with and without a stop.
func TestDeliverMostJobs(t *testing.T) {
	jobs := many(api.MaxJobs, 0, 0, 1)
	want := slices.Repeat([]int{api.JobDone}, api.MaxJobs)
	delivers(t, jobs, 2, want...)
	jobs[api.MaxJobs-1].Outcomes = []int{2}
	want[api.MaxJobs-1] = api.JobStopped
	delivers(t, jobs, 2, want...)
	jobs[0].Outcomes = []int{0, 2}
	clear(want)
	want[0] = api.JobStopped
	delivers(t, jobs, 2, want...)
}

// inside says whether a goroutine is in the package's code.
func inside() bool {
	stacks := make([]byte, 1<<20)
	stacks = stacks[:runtime.Stack(stacks, true)]
	return strings.Contains(string(stacks), "wicket/ping.")
}

// P13.8: no goroutine is left behind an answer: not behind a stop, with more workers than jobs, without jobs, nor behind an error.
func TestNoGoroutineIsLeft(t *testing.T) {
	stopped := many(api.MaxJobs, 1)
	stopped[0].Outcomes = []int{2}
	for _, jobs := range [][]api.Job{nil, many(1, 1), stopped, many(api.MaxJobs, 0, 1), many(api.MaxJobs+1, 1), many(2, 3)} {
		for _, workers := range []int{0, 1, 2, api.MaxWorkers, api.MaxWorkers + 1} {
			ping.Deliver(jobs, workers)
		}
	}
	// A goroutine that has said that it is done may have a step to go to its end, in which it touches nothing.
	for range 1000 {
		if !inside() {
			return
		}
		time.Sleep(time.Millisecond)
	}
	t.Error("goroutines are left")
}

// P13.8: behind an answer no goroutine reads the jobs or writes the answer any more: both may be written at once.
func TestDeliverIsOverWithItsAnswer(t *testing.T) {
	jobs := many(api.MaxJobs, 0, 0, 1)
	for i := range 100 {
		jobs[i].Outcomes[2] = api.OutcomeStop
		got, e := ping.Deliver(jobs, api.MaxWorkers)
		if e != api.OK || got[i] != api.JobStopped || slices.Max(got[i+1:]) != api.JobSkipped {
			t.Fatalf("%d: %v, %d", i, got, e)
		}
		for place := range got {
			got[place] = -1
		}
		for place := range jobs {
			jobs[place].Outcomes = []int{0, 0, 1}
		}
		runtime.Gosched()
		if slices.Max(got) != -1 {
			t.Fatal("an answer was written behind its time")
		}
	}
}

// Rule 4: Delivers that run at the same time, of the same jobs too, know nothing of one another.
func TestDeliversAtTheSameTime(t *testing.T) {
	jobs := batch([]int{0, 1}, nil, []int{1}, []int{0, 2}, []int{1})
	want := []int{api.JobDone, api.JobFailed, api.JobDone, api.JobStopped, api.JobSkipped}
	var all sync.WaitGroup
	for workers := 1; workers <= api.MaxWorkers; workers++ {
		all.Go(func() {
			for range 50 {
				if got, e := ping.Deliver(jobs, workers); !slices.Equal(got, want) || e != api.OK {
					t.Errorf("%d workers: %v, %d", workers, got, e)
				}
			}
		})
	}
	all.Wait()
}
