package ping

import "wicket/api"

// Backoff: P13.1.
func Backoff(p api.Policy, tries int) (uint64, api.Errno) {
	if !isRight(p) || tries < 1 || tries >= p.Attempts {
		return 0, api.ErrArg
	}
	return wait(p, tries), api.OK
}

// isRight: may an outbox have this policy?
func isRight(p api.Policy) bool {
	return p.Attempts >= 1 && p.Attempts <= api.MaxAttempts && p.First >= 1 && p.Most >= p.First
}

// wait is how many seconds go by behind that many failed attempts. Most is halved, since First, doubled, might run over.
func wait(p api.Policy, tries int) uint64 {
	doublings := tries - 1
	if p.First > p.Most>>doublings {
		return p.Most
	}
	return p.First << doublings
}
