package ping_test

import (
	"math/big"
	"testing"

	"wicket/api"
	"wicket/ping"
)

// P13.1, the chapter's examples.
func TestBackoffExamples(t *testing.T) {
	waits(t, example, 1, 2, api.OK)
	waits(t, example, 2, 4, api.OK)
	waits(t, example, 3, 5, api.OK)
	waits(t, example, 4, 0, api.ErrArg)
	waits(t, example, 0, 0, api.ErrArg)
	waits(t, api.Policy{Attempts: 20, First: 1 << 63, Most: last}, 1, 1<<63, api.OK)
	waits(t, api.Policy{Attempts: 20, First: 1 << 63, Most: last}, 2, last, api.OK)
}

// P13.1: tries is from 1 up to one below Attempts, so one attempt has nothing behind it.
func TestBackoffTries(t *testing.T) {
	for _, tries := range []int{-1 << 63, -1, 0, 4, 5, 20, 21, 64, 65, 1<<63 - 1} {
		waits(t, example, tries, 0, api.ErrArg)
	}
	for tries := -1; tries <= 2; tries++ {
		waits(t, api.Policy{Attempts: 1, First: 1, Most: 1}, tries, 0, api.ErrArg)
	}
	greatest := api.Policy{Attempts: api.MaxAttempts, First: 3, Most: last}
	waits(t, greatest, 19, 3<<18, api.OK)
	waits(t, greatest, 20, 0, api.ErrArg)
}

// wrongPolicies are none that an outbox may have.
func wrongPolicies() []api.Policy {
	return []api.Policy{
		{},
		{Attempts: 0, First: 2, Most: 5},
		{Attempts: -1, First: 2, Most: 5},
		{Attempts: -1 << 63, First: 2, Most: 5},
		{Attempts: 21, First: 2, Most: 5},
		{Attempts: 1<<63 - 1, First: 2, Most: 5},
		{Attempts: 4, First: 0, Most: 5},
		{Attempts: 4, First: 0, Most: 0},
		{Attempts: 4, First: 6, Most: 5},
		{Attempts: 4, First: last, Most: last - 1},
		{Attempts: 4, First: 1, Most: 0},
	}
}

// rightPolicies are those at the edges of what an outbox may have.
func rightPolicies() []api.Policy {
	return []api.Policy{
		{Attempts: 1, First: 1, Most: 1},
		{Attempts: 20, First: 1, Most: 1},
		{Attempts: 20, First: 1, Most: last},
		{Attempts: 20, First: last, Most: last},
		{Attempts: 2, First: 5, Most: 5},
		{Attempts: 8, First: 2, Most: 300},
	}
}

// P13.1 and P13.2: a policy that is not right.
func TestWrongPolicies(t *testing.T) {
	for _, p := range wrongPolicies() {
		for tries := -1; tries <= 21; tries++ {
			waits(t, p, tries, 0, api.ErrArg)
		}
		if o, e := ping.New(p); o != nil || e != api.ErrArg {
			t.Errorf("New(%v): %v, %d", p, o, e)
		}
	}
}

// P13.2: a new Outbox owes nothing, whatever right policy it has.
func TestNew(t *testing.T) {
	for _, p := range rightPolicies() {
		o := made(t, p)
		owed(t, o)
		due(t, o, last)
		next(t, o, 0, false)
		drops(t, o, 0, false)
		refuses(t, o, 0, api.OutcomeDone, 0, api.ErrNone)
	}
}

// P13.1: First times two so many times over, but at most Most, also where the product or Most is near 2^64, held against numbers without an end.
func TestBackoffAgainstBigNumbers(t *testing.T) {
	var edges []uint64
	for shift := range 64 {
		for _, n := range []uint64{1, 3, 1 << 20} {
			edges = append(edges, n<<shift-1, n<<shift, n<<shift+1)
		}
	}
	edges = append(edges, last-1, last)
	for _, first := range edges {
		for _, most := range edges {
			if first == 0 || most < first {
				continue
			}
			p := api.Policy{Attempts: api.MaxAttempts, First: first, Most: most}
			for tries := 1; tries < api.MaxAttempts; tries++ {
				product := new(big.Int).Lsh(new(big.Int).SetUint64(first), uint(tries-1))
				want := most
				if product.Cmp(new(big.Int).SetUint64(most)) < 0 {
					want = product.Uint64()
				}
				waits(t, p, tries, want, api.OK)
			}
		}
	}
}
