package ping_test

import (
	"testing"

	"wicket/api"
	"wicket/ping"
)

// P13.3 to P13.5, the chapter's second example.
func TestExampleOfOutcomes(t *testing.T) {
	o := made(t, example)
	owe(t, o, 7, 0, 10, api.OK)
	owe(t, o, 7, 0, 10, api.ErrThere)
	owe(t, o, 8, 4, 0, api.ErrArg)
	due(t, o, 9)
	due(t, o, 10, 7)
	comes(t, o, 7, api.OutcomeFailed, 12, api.Delivery{Number: 7, Tries: 1, Due: 14}, api.JobSkipped, api.OK)
	comes(t, o, 7, api.OutcomeFailed, 14, api.Delivery{Number: 7, Tries: 2, Due: 18}, api.JobSkipped, api.OK)
	comes(t, o, 7, api.OutcomeFailed, 18, api.Delivery{Number: 7, Tries: 3, Due: 23}, api.JobSkipped, api.OK)
	owed(t, o, api.Delivery{Number: 7, Tries: 3, Due: 23})
	comes(t, o, 7, api.OutcomeFailed, 30, api.Delivery{Number: 7, Tries: 4, Due: 23}, api.JobFailed, api.OK)
	owed(t, o)
	refuses(t, o, 7, api.OutcomeDone, 31, api.ErrNone)
}

// P13.5, the third example: a time that would pass the last second is the last second.
func TestOutcomeAtTheLastSecond(t *testing.T) {
	o := made(t, example)
	owe(t, o, 7, 0, last-1, api.OK)
	comes(t, o, 7, api.OutcomeFailed, last, api.Delivery{Number: 7, Tries: 1, Due: last}, api.JobSkipped, api.OK)
	comes(t, o, 7, api.OutcomeFailed, last-4, api.Delivery{Number: 7, Tries: 2, Due: last}, api.JobSkipped, api.OK)
	comes(t, o, 7, api.OutcomeFailed, last-6, api.Delivery{Number: 7, Tries: 3, Due: last - 1}, api.JobSkipped, api.OK)
	owe(t, o, 8, 1, 0, api.OK)
	comes(t, o, 8, api.OutcomeFailed, last-3, api.Delivery{Number: 8, Tries: 2, Due: last}, api.JobSkipped, api.OK)
	due(t, o, last, 7, 8)
	due(t, o, last-1, 7)
	due(t, o, last-2)
}

// P13.4, the fourth example.
func TestExampleOfLists(t *testing.T) {
	o := made(t, example)
	owe(t, o, 2, 0, 5, api.OK)
	owe(t, o, 1, 0, 5, api.OK)
	owe(t, o, 3, 0, 4, api.OK)
	due(t, o, 5, 3, 1, 2)
	next(t, o, 4, true)
	owed(t, o, api.Delivery{Number: 1, Due: 5}, api.Delivery{Number: 2, Due: 5}, api.Delivery{Number: 3, Due: 4})
}

// P13.4: Due, Next and Owed at the edges of numbers and times; they change nothing.
func TestLists(t *testing.T) {
	o := made(t, example)
	owe(t, o, last, 3, 0, api.OK)
	owe(t, o, 0, 1, last, api.OK)
	owe(t, o, 5, 0, 1<<63, api.OK)
	owe(t, o, 1<<63, 2, 1<<63, api.OK)
	for range 2 {
		due(t, o, 0, last)
		due(t, o, 1<<63-1, last)
		due(t, o, 1<<63, last, 5, 1<<63)
		due(t, o, last-1, last, 5, 1<<63)
		due(t, o, last, last, 5, 1<<63, 0)
		next(t, o, 0, true)
		owed(t, o, api.Delivery{Number: 0, Tries: 1, Due: last}, api.Delivery{Number: 5, Due: 1 << 63},
			api.Delivery{Number: 1 << 63, Tries: 2, Due: 1 << 63}, api.Delivery{Number: last, Tries: 3, Due: 0})
	}
	drops(t, o, last, true)
	due(t, o, 1<<63-1)
	next(t, o, 1<<63, true)
}

// P13.3: Tries is from 0 up to one below Attempts.
func TestOweTries(t *testing.T) {
	for attempts := 1; attempts <= api.MaxAttempts; attempts++ {
		o := made(t, api.Policy{Attempts: attempts, First: 1, Most: 1})
		for _, tries := range []int{-1 << 63, -1, attempts, attempts + 1, 1<<63 - 1} {
			owe(t, o, 1, tries, 0, api.ErrArg)
		}
		owed(t, o)
		for tries := range attempts {
			owe(t, o, uint64(tries), tries, 9, api.OK)
		}
		if len(o.Owed()) != attempts {
			t.Errorf("%d are owed of %d", len(o.Owed()), attempts)
		}
	}
}

// full is an Outbox of MaxOwed deliveries, from number 1 on, each due at its number.
func full(t *testing.T) *ping.Outbox {
	o := made(t, example)
	for number := uint64(1); number <= api.MaxOwed; number++ {
		owe(t, o, number, 0, number, api.OK)
	}
	return o
}

// P13.3: MaxOwed deliveries and one more; one that is gone makes room for one.
func TestOweFull(t *testing.T) {
	o := full(t)
	before := o.Owed()
	owe(t, o, 0, 0, 0, api.ErrFull)
	owe(t, o, api.MaxOwed+1, 3, last, api.ErrFull)
	owed(t, o, before...)
	for i, room := range []func(){
		func() { drops(t, o, 7, true) },
		func() {
			comes(t, o, 8, api.OutcomeDone, 0, api.Delivery{Number: 8, Tries: 1, Due: 8}, api.JobDone, api.OK)
		},
		func() {
			comes(t, o, 9, api.OutcomeStop, 0, api.Delivery{Number: 9, Tries: 1, Due: 9}, api.JobStopped, api.OK)
		},
	} {
		room()
		owe(t, o, uint64(5000+i), 0, 0, api.OK)
		owe(t, o, uint64(6000+i), 0, 0, api.ErrFull)
	}
	comes(t, o, 10, api.OutcomeFailed, 100, api.Delivery{Number: 10, Tries: 1, Due: 102}, api.JobSkipped, api.OK)
	owe(t, o, 7000, 0, 0, api.ErrFull)
	if n := len(o.Due(last)); n != api.MaxOwed {
		t.Errorf("%d are owed", n)
	}
}

// P13.3: ErrArg is told ahead of ErrThere, and that ahead of ErrFull; each of them changes nothing.
func TestOrderOfErrorsOfOwe(t *testing.T) {
	o := full(t)
	before := o.Owed()
	owe(t, o, 1, -1, 0, api.ErrArg)
	owe(t, o, 1, 4, 0, api.ErrArg)
	owe(t, o, 0, 4, 0, api.ErrArg)
	owe(t, o, 1, 3, 0, api.ErrThere)
	owe(t, o, api.MaxOwed, 0, last, api.ErrThere)
	owe(t, o, 0, 3, 0, api.ErrFull)
	owed(t, o, before...)
}

// P13.5: ErrNone is told ahead of ErrOutcome; each of them changes nothing.
func TestOrderOfErrorsOfOutcome(t *testing.T) {
	o := made(t, example)
	owe(t, o, 7, 2, 10, api.OK)
	for _, outcome := range []int{-1 << 63, -1, 3, 4, 1<<63 - 1} {
		refuses(t, o, 6, outcome, 20, api.ErrNone)
		refuses(t, o, 7, outcome, 20, api.ErrOutcome)
	}
	for outcome := range 3 {
		refuses(t, o, 8, outcome, 20, api.ErrNone)
	}
	owed(t, o, api.Delivery{Number: 7, Tries: 2, Due: 10})
	due(t, o, 10, 7)
}

// P13.5: done and stopped, at any number of tries, ahead of its time too; what was due is told as it was.
func TestOutcomesThatEnd(t *testing.T) {
	for outcome, job := range map[int]int{api.OutcomeDone: api.JobDone, api.OutcomeStop: api.JobStopped} {
		for tries := range 4 {
			for _, now := range []uint64{0, 49, 50, 51, last} {
				o := made(t, example)
				owe(t, o, 3, 0, 60, api.OK)
				owe(t, o, 7, tries, 50, api.OK)
				comes(t, o, 7, outcome, now, api.Delivery{Number: 7, Tries: tries + 1, Due: 50}, job, api.OK)
				owed(t, o, api.Delivery{Number: 3, Due: 60})
				due(t, o, last, 3)
				next(t, o, 60, true)
				refuses(t, o, 7, outcome, now, api.ErrNone)
			}
		}
	}
}

// P13.5: a policy of one attempt gives up behind the first that failed.
func TestOutcomeOfTheOnlyAttempt(t *testing.T) {
	o := made(t, api.Policy{Attempts: 1, First: 1, Most: 1})
	owe(t, o, 7, 0, 50, api.OK)
	comes(t, o, 7, api.OutcomeFailed, 60, api.Delivery{Number: 7, Tries: 1, Due: 50}, api.JobFailed, api.OK)
	owed(t, o)
	next(t, o, 0, false)
}

// P13.5: a failed attempt is counted from now, whether it was due or not, and one that fails goes to its new place among the others.
func TestOutcomeMovesTheDelivery(t *testing.T) {
	o := made(t, example)
	owe(t, o, 1, 0, 10, api.OK)
	owe(t, o, 2, 0, 14, api.OK)
	owe(t, o, 3, 0, 20, api.OK)
	comes(t, o, 1, api.OutcomeFailed, 12, api.Delivery{Number: 1, Tries: 1, Due: 14}, api.JobSkipped, api.OK)
	due(t, o, last, 1, 2, 3)
	comes(t, o, 3, api.OutcomeFailed, 0, api.Delivery{Number: 3, Tries: 1, Due: 2}, api.JobSkipped, api.OK)
	due(t, o, last, 3, 1, 2)
	next(t, o, 2, true)
	comes(t, o, 1, api.OutcomeFailed, 12, api.Delivery{Number: 1, Tries: 2, Due: 16}, api.JobSkipped, api.OK)
	due(t, o, last, 3, 2, 1)
	owed(t, o, api.Delivery{Number: 1, Tries: 2, Due: 16}, api.Delivery{Number: 2, Due: 14}, api.Delivery{Number: 3, Tries: 1, Due: 2})
}

// P13.6: a delivery that is dropped is owed no more, and may be owed anew.
func TestDrop(t *testing.T) {
	o := made(t, example)
	drops(t, o, 0, false)
	owe(t, o, 1, 2, 10, api.OK)
	owe(t, o, 2, 0, 10, api.OK)
	drops(t, o, 0, false)
	drops(t, o, 1, true)
	drops(t, o, 1, false)
	refuses(t, o, 1, api.OutcomeDone, 10, api.ErrNone)
	owed(t, o, api.Delivery{Number: 2, Due: 10})
	owe(t, o, 1, 0, 4, api.OK)
	owed(t, o, api.Delivery{Number: 1, Due: 4}, api.Delivery{Number: 2, Due: 10})
	drops(t, o, 1, true)
	drops(t, o, 2, true)
	owed(t, o)
	next(t, o, 0, false)
	due(t, o, last)
}

// P13.7: the nil Outbox, whatever it is asked.
func TestNilOutbox(t *testing.T) {
	var o *ping.Outbox
	for _, tries := range []int{-1, 0, 1, 20} {
		owe(t, o, 1, tries, 5, api.OK)
		owe(t, o, 1, tries, 5, api.OK)
	}
	due(t, o, last)
	owed(t, o)
	next(t, o, 0, false)
	for outcome := -1; outcome <= 3; outcome++ {
		comes(t, o, 1, outcome, 9, api.Delivery{}, 0, api.OK)
	}
	drops(t, o, 1, false)
}

// Rule 4: two outboxes know nothing of each other, and an outbox keeps its own policy.
func TestOutboxesAreApart(t *testing.T) {
	p := example
	a, b := made(t, p), made(t, api.Policy{Attempts: 2, First: 100, Most: 100})
	p.First, p.Most, p.Attempts = 1, 1, 1
	owe(t, a, 1, 0, 1, api.OK)
	owe(t, b, 1, 0, 2, api.OK)
	comes(t, a, 1, api.OutcomeFailed, 10, api.Delivery{Number: 1, Tries: 1, Due: 12}, api.JobSkipped, api.OK)
	comes(t, b, 1, api.OutcomeFailed, 10, api.Delivery{Number: 1, Tries: 1, Due: 110}, api.JobSkipped, api.OK)
	drops(t, a, 1, true)
	owed(t, b, api.Delivery{Number: 1, Tries: 1, Due: 110})
}
