package ping

import (
	"slices"
	"sync"

	"wicket/api"
)

// Deliver: P13.8.
func Deliver(jobs []api.Job, workers int) ([]int, api.Errno) {
	if len(jobs) > api.MaxJobs || workers < 1 || workers > api.MaxWorkers || !areOutcomes(jobs) {
		return nil, api.ErrArg
	}
	b := batch{
		jobs:   jobs,
		became: make([]int, len(jobs)),
		queue:  make(chan int, len(jobs)),
		done:   make(chan struct{}),
	}
	b.run(workers)
	return b.untilStopped(), api.OK
}

func areOutcomes(jobs []api.Job) bool {
	for _, job := range jobs {
		for _, outcome := range job.Outcomes {
			if !isOutcome(outcome) {
				return false
			}
		}
	}
	return true
}

// batch is what the workers of one Deliver share. Each writes the places in became of the jobs alone that it took.
type batch struct {
	jobs   []api.Job
	became []int
	queue  chan int // the jobs' places, with room for all of them: whoever sends never waits for workers that have stopped
	done   chan struct{}
	stop   sync.Once
}

// run answers when all workers have ended.
func (b *batch) run(workers int) {
	var all sync.WaitGroup
	for range workers {
		all.Add(1)
		go func() {
			defer all.Done()
			b.work()
		}()
	}
	for place := range b.jobs {
		b.queue <- place
	}
	close(b.queue)
	all.Wait()
}

// work takes jobs till there are no more, or one is stopped. What it has taken it makes in any case: so whatever lies ahead of a stopped job, and was thus taken ahead of it, is made.
func (b *batch) work() {
	for {
		select {
		case <-b.done:
			return
		case place, more := <-b.queue:
			if !more {
				return
			}
			b.became[place] = attempts(b.jobs[place].Outcomes)
			if b.became[place] == api.JobStopped {
				b.stop.Do(func() { close(b.done) })
			}
		}
	}
}

// attempts makes a job's attempts, and says what became of it.
func attempts(outcomes []int) int {
	for _, outcome := range outcomes {
		switch outcome {
		case api.OutcomeDone:
			return api.JobDone
		case api.OutcomeStop:
			return api.JobStopped
		}
	}
	return api.JobFailed
}

// untilStopped lets go what became of the jobs behind the first one that is stopped: whether they were taken hangs on how the workers ran.
func (b *batch) untilStopped() []int {
	stopped := slices.Index(b.became, api.JobStopped)
	if stopped >= 0 {
		clear(b.became[stopped+1:])
	}
	return b.became
}
