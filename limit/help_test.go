package limit_test

import (
	"fmt"
	"slices"
	"strings"
	"testing"

	"wicket/api"
	"wicket/limit"
)

const last = 1<<64 - 1

// limits is what a limit and the slow one have in common.
type limits interface {
	Try(subject string, now uint64) (int, api.Errno)
	Left(subject string, now uint64) int
	Wait(subject string, now uint64) uint64
	Forgive(subject string) bool
	Sweep(now uint64) int
	Subjects() []string
	Clear()
}

func made(t *testing.T, tries int, window uint64, subjects int) *limit.Limit {
	t.Helper()
	l, e := limit.New(tries, window, subjects)
	if l == nil || e != api.OK {
		t.Fatalf("New(%d, %d, %d): %v, %d", tries, window, subjects, l, e)
	}
	return l
}

// example is the limit of the chapter's examples.
func example(t *testing.T) *limit.Limit {
	t.Helper()
	return made(t, 2, 10, 2)
}

// long is a text of so many bytes.
func long(n int) string { return strings.Repeat("x", n) }

// tries: the attempt has that answer.
func tries(t *testing.T, l limits, subject string, now uint64, left int, e api.Errno) {
	t.Helper()
	if n, f := l.Try(subject, now); n != left || f != e {
		t.Errorf("Try(%.20q, %d): %d, %d, not %d, %d", subject, now, n, f, left, e)
	}
}

// leaves: so many attempts are left, and so long is the wait.
func leaves(t *testing.T, l limits, subject string, now uint64, left int, wait uint64) {
	t.Helper()
	if n := l.Left(subject, now); n != left {
		t.Errorf("Left(%.20q, %d): %d, not %d", subject, now, n, left)
	}
	if w := l.Wait(subject, now); w != wait {
		t.Errorf("Wait(%.20q, %d): %d, not %d", subject, now, w, wait)
	}
}

func forgives(t *testing.T, l limits, subject string, want bool) {
	t.Helper()
	if had := l.Forgive(subject); had != want {
		t.Errorf("Forgive(%.20q): %v, not %v", subject, had, want)
	}
}

func sweeps(t *testing.T, l limits, now uint64, want int) {
	t.Helper()
	if n := l.Sweep(now); n != want {
		t.Errorf("Sweep(%d): %d, not %d", now, n, want)
	}
}

func knows(t *testing.T, l limits, want ...string) {
	t.Helper()
	if list := l.Subjects(); !slices.Equal(list, want) {
		t.Errorf("Subjects: %q, not %q", list, want)
	}
}

// look is what can be seen of a limit by calls that change nothing, at those times.
func look(l limits, names []string, times ...uint64) string {
	var b strings.Builder
	fmt.Fprintf(&b, "%q", l.Subjects())
	for _, now := range times {
		for i, name := range names {
			fmt.Fprint(&b, " ", now, ":", i, ":", l.Left(name, now), ":", l.Wait(name, now))
		}
	}
	return b.String()
}

// stays: the call changes nothing, the clock neither.
func stays(t *testing.T, l limits, what string, call func()) {
	t.Helper()
	names := []string{"a", "b", "c", "d", "", long(256), long(257)}
	times := []uint64{0, 1, 4, 5, 6, 7, 9, 10, 11, 13, 14, 15, 16, 99, 100, 109, 110, 111, last - 1, last}
	was := look(l, names, times...)
	call()
	if s := look(l, names, times...); s != was {
		t.Errorf("%s has changed\n%s\nto\n%s", what, was, s)
	}
}
