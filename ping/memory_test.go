package ping_test

import (
	"cmp"
	"reflect"
	"runtime"
	"slices"
	"testing"
	"unsafe"

	"wicket/api"
	"wicket/ping"
)

// span is a piece of memory, from low up to high.
type span struct{ low, high uintptr }

// spanOf is the memory of a list, spare room too.
func spanOf[T any](list []T) span {
	var element T
	low := uintptr(unsafe.Pointer(unsafe.SliceData(list)))
	return span{low, low + uintptr(cap(list))*unsafe.Sizeof(element)}
}

// apart: do no two of the spans share a byte?
func apart(all ...span) bool {
	all = slices.DeleteFunc(all, func(s span) bool { return s.low == s.high })
	slices.SortFunc(all, func(a, b span) int { return cmp.Compare(a.low, b.low) })
	for i := 1; i < len(all); i++ {
		if all[i].low < all[i-1].high {
			return false
		}
	}
	return true
}

// filled is an Outbox of some deliveries.
func filled(t *testing.T) *ping.Outbox {
	o := made(t, example)
	for number := range uint64(20) {
		owe(t, o, number, 0, 100-number, api.OK)
	}
	return o
}

// Rule 3: lists that are answered are new memory, and share none with one another.
func TestAnswersAreNewMemory(t *testing.T) {
	o := filled(t)
	if !apart(spanOf(o.Due(90)), spanOf(o.Due(90)), spanOf(o.Due(last)), spanOf(o.Owed()), spanOf(o.Owed())) {
		t.Error("an outbox's answers share memory")
	}
	jobs := batch([]int{1}, []int{0, 2}, []int{1})
	spans := []span{spanOf(jobs)}
	for _, job := range jobs {
		spans = append(spans, spanOf(job.Outcomes))
	}
	for workers := 1; workers <= api.MaxWorkers; workers++ {
		got, _ := ping.Deliver(jobs, workers)
		spans = append(spans, spanOf(got))
	}
	if !apart(spans...) {
		t.Error("what Deliver answers shares memory")
	}
}

// Rule 3: whoever writes into an answer, or behind it, changes no outbox; and no later call writes into an answer.
func TestAnswersAreNobodyElses(t *testing.T) {
	o := filled(t)
	keptDue, keptOwed := o.Due(last), o.Owed()
	wantDue, wantOwed := slices.Clone(keptDue), slices.Clone(keptOwed)
	numbers, deliveries := o.Due(last), o.Owed()
	for i := range numbers[:cap(numbers)] {
		numbers[:cap(numbers)][i] = 1 << 40
	}
	for i := range deliveries[:cap(deliveries)] {
		deliveries[:cap(deliveries)][i] = api.Delivery{Number: 1 << 40, Tries: -1}
	}
	due(t, o, last, wantDue...)
	owed(t, o, wantOwed...)
	for number := range uint64(20) {
		o.Outcome(number, int(number%3), 1000)
		o.Drop(number + 1)
	}
	owe(t, o, 500, 0, 0, api.OK)
	if !slices.Equal(keptDue, wantDue) || !slices.Equal(keptOwed, wantOwed) {
		t.Errorf("an answer has changed: %v, %v", keptDue, keptOwed)
	}
}

// Rule 3: jobs that are handed in are not changed, nor their outcomes, their spare room neither; and what is in the spare room is not seen.
func TestJobsAreNotChanged(t *testing.T) {
	build := func() []api.Job {
		jobs := batch([]int{0, 1, 9}, []int{9}, []int{0, 2, 1}, []int{1, 2, 2}, []int{9}, []int{8})
		jobs[0].Outcomes = jobs[0].Outcomes[:2]
		jobs[1].Outcomes = jobs[1].Outcomes[:0]
		return jobs
	}
	jobs := build()
	for workers := 1; workers <= api.MaxWorkers; workers++ {
		got, e := ping.Deliver(jobs[:4], workers)
		if !slices.Equal(got, []int{1, 2, 3, 0}) || e != api.OK {
			t.Errorf("%d workers: %v, %d", workers, got, e)
		}
		wrong(t, jobs[:5], workers)
	}
	if want := build(); !reflect.DeepEqual(jobs, want) || jobs[0].Outcomes[:3][2] != 9 || jobs[1].Outcomes[:1][0] != 9 {
		t.Errorf("the jobs have changed: %v", jobs)
	}
}

// Rule 3: jobs are not kept: an answer stays what it was when they are written over, and the next batch is read anew.
func TestJobsAreNotKept(t *testing.T) {
	jobs := many(50, 1)
	first, _ := ping.Deliver(jobs, 4)
	for i := range jobs {
		jobs[i].Outcomes = []int{0}
	}
	second, _ := ping.Deliver(jobs, 4)
	if slices.Min(first) != api.JobDone || slices.Max(first) != api.JobDone || slices.Min(second) != api.JobFailed || slices.Max(second) != api.JobFailed {
		t.Errorf("%v, %v", first, second)
	}
}

// A number that is owed no more is let go: an outbox that lives long does not grow.
func TestWhatIsNotOwedIsLetGo(t *testing.T) {
	o := made(t, example)
	var before, behind runtime.MemStats
	runtime.GC()
	runtime.ReadMemStats(&before)
	for number := range uint64(300000) {
		owe(t, o, number, 3, number%97, api.OK)
		if number >= 100 {
			o.Outcome(number-100, int(number%3), 0)
		}
	}
	runtime.GC()
	runtime.ReadMemStats(&behind)
	if held := int64(behind.HeapAlloc) - int64(before.HeapAlloc); held > 1<<20 {
		t.Errorf("%d bytes are held", held)
	}
	if n := len(o.Owed()); n != 100 {
		t.Errorf("%d are owed", n)
	}
}
