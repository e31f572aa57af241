package limit

import "wicket/api"

// goTo sets the clock forward, and lets go the windows that are over by then.
func (l *Limit) goTo(now uint64) {
	if now <= l.clock {
		return
	}
	l.clock = now
	for subject, a := range l.open {
		if l.rest(a, now) == 0 {
			delete(l.open, subject)
		}
	}
}

// rest is how many seconds are left of a window at a time that is not ahead of the clock; 0, if it is over.
func (l *Limit) rest(a *attempts, at uint64) uint64 {
	return l.window - min(l.window, at-a.since)
}

// left is how many attempts of the subject would be OK at a time that is not ahead of the clock, or why none would.
func (l *Limit) left(subject string, at uint64) (int, api.Errno) {
	if len(subject) > api.MaxSubject {
		return 0, api.ErrLong
	}
	if a := l.open[subject]; a != nil && l.rest(a, at) > 0 {
		if a.count == l.tries {
			return 0, api.ErrSpent
		}
		return l.tries - a.count, api.OK
	}
	if l.openAt(at) >= l.subjects {
		return 0, api.ErrFull
	}
	return l.tries, api.OK
}

// openAt is how many windows are open at a time that is not ahead of the clock.
func (l *Limit) openAt(at uint64) int {
	if at == l.clock {
		return len(l.open)
	}
	n := 0
	for _, a := range l.open {
		if l.rest(a, at) > 0 {
			n++
		}
	}
	return n
}

// firstOver is how many seconds go by till the first window of a limit that is full at that time is over: there are never more windows than subjects, so all of them are open then.
func (l *Limit) firstOver(at uint64) uint64 {
	least := l.window
	for _, a := range l.open {
		least = min(least, l.rest(a, at))
	}
	return least
}
