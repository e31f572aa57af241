package client_test

import (
	"testing"

	"wicket/api"
	"wicket/client"
)

// registered are tv, which has no secret, and some that have.
func registered() []api.Client {
	return []api.Client{tv(), {Id: "till", Secret: "s", Grants: api.GrantCiba}, box(), {Id: "t v", Secret: "t", Grants: 1}}
}

func till() api.Client { return registered()[1] }

// P11.6: the chapter's examples.
func TestProofExamples(t *testing.T) {
	l := []api.Client{tv(), {Id: "box", Secret: "s", Grants: api.GrantCiba}}
	getsIn(t, l, "", form("client_id", "tv"), l[0], api.ProofNone)
	staysOut(t, l, "", form("client_id", "box"), api.ErrProof)
	getsIn(t, l, "", form("client_id", "box", "client_secret", "s"), l[1], api.ProofPost)
	staysOut(t, l, "", nil, api.ErrNone)
	staysOut(t, l, header("box:s"), form("client_id", "tv"), api.ErrProof)
	staysOut(t, l, header("box:s"), form("client_secret", "s"), api.ErrTwice)
	staysOut(t, l, header("tv:"), nil, api.ErrProof)
}

// P11.6: the three ways in; what else the form says has no part.
func TestProofWays(t *testing.T) {
	l := registered()
	getsIn(t, l, "", form("scope", "a", "client_id", "tv", "scope", "b"), tv(), api.ProofNone)
	getsIn(t, l, "", form("client_id", "tv", "client_secret", ""), tv(), api.ProofNone)
	getsIn(t, l, "", form("client_secret", "s", "grant_type", "x", "client_id", "till"), till(), api.ProofPost)
	getsIn(t, l, "", form("client_id", "box", "client_secret", box().Secret), box(), api.ProofPost)
	getsIn(t, l, header("till:s"), nil, till(), api.ProofBasic)
	getsIn(t, l, "bAsIc  "+coded("till:%73"), form("client_id", "till"), till(), api.ProofBasic)
	getsIn(t, l, header("till:s"), form("client_id", "", "client_secret", ""), till(), api.ProofBasic)
	getsIn(t, l, header("box:se+cr:et%2B&%25="), form("Client_id", "tv", "client_secret ", "s"), box(), api.ProofBasic)
	getsIn(t, l, header("t+v:t"), form("client_id", "t v"), l[3], api.ProofBasic)
}

// P11.6: without a header.
func TestProofByForm(t *testing.T) {
	l := registered()
	for _, f := range [][]api.Pair{nil, {}, form("client_id", ""), form("client_secret", "s"), form("client_id", "", "client_secret", "s"), form("Client_Id", "tv"), form("", "tv")} {
		staysOut(t, l, "", f, api.ErrNone)
	}
	for _, id := range []string{"no", "TV", "tv ", " tv", "tv\x00", "till:s", "t+v"} {
		staysOut(t, l, "", form("client_id", id), api.ErrClient)
		staysOut(t, l, "", form("client_id", id, "client_secret", "s"), api.ErrClient)
	}
	staysOut(t, nil, "", form("client_id", "tv"), api.ErrClient)
	for _, secret := range []string{"", "S", "ss", "s ", " s", "s\x00", "t", "till"} {
		staysOut(t, l, "", form("client_id", "till", "client_secret", secret), api.ErrProof)
	}
	staysOut(t, l, "", form("client_id", "tv", "client_secret", "s"), api.ErrProof)
	staysOut(t, l, "", form("client_id", "tv", "client_secret", " "), api.ErrProof)
}

// P11.6: with a header, which counts even where the form alone would do.
func TestProofByHeader(t *testing.T) {
	l := registered()
	for _, h := range []string{" ", "x", "Basic", "Basic ", "Bearer dHY6", "Basic dHY", header("till"), header("till:%")} {
		staysOut(t, l, h, nil, api.ErrBasic)
		staysOut(t, l, h, form("client_id", "tv"), api.ErrBasic)
		staysOut(t, l, h, form("client_id", "till", "client_secret", "s"), api.ErrBasic)
	}
	staysOut(t, l, header("till:s"), form("client_id", "till", "client_secret", "s"), api.ErrTwice)
	staysOut(t, l, header("no:s"), form("client_secret", "x"), api.ErrTwice)
	for _, id := range []string{"tv", "no", "Till", "till ", "til", "box"} {
		staysOut(t, l, header("till:s"), form("client_id", id), api.ErrProof)
	}
	for _, s := range []string{"no:s", "Till:s", ":s", ":", "till%20:s", "%74ill+:s"} {
		staysOut(t, l, header(s), nil, api.ErrClient)
	}
	staysOut(t, nil, header("till:s"), nil, api.ErrClient)
	for _, s := range []string{"till:", "till:S", "till:ss", "till:s+", "till:%20s", "till:s:", "till::s", "till:s%00", "tv:", "tv:s", "tv:+"} {
		staysOut(t, l, header(s), nil, api.ErrProof)
	}
}

// P11.6: what is twice in the form goes ahead of all else, whatever the values are.
func TestProofTwice(t *testing.T) {
	l := registered()
	for _, f := range [][]api.Pair{
		form("client_id", "tv", "client_id", "tv"), form("client_id", "", "client_id", "tv"), form("client_id", "", "client_id", ""), form("client_id", "tv", "x", "y", "client_id", ""),
		form("client_secret", "s", "client_secret", "s"), form("client_secret", "", "client_secret", ""), form("client_id", "tv", "client_secret", "", "client_secret", ""), form("client_id", "till", "client_secret", "s", "client_secret", ""),
		form("client_id", "tv", "client_id", "no", "client_secret", "s", "client_secret", "t"),
	} {
		for _, h := range []string{"", "x", header("till:s"), header("no:s"), header("tv:")} {
			staysOut(t, l, h, f, api.ErrTwice)
		}
	}
}

// P11.6: the order of the errors with a header: each of these has all faults that come behind its own.
func TestProofOrder(t *testing.T) {
	l := registered()
	staysOut(t, l, "x", form("client_id", "a", "client_id", "b", "client_secret", "c"), api.ErrTwice)
	staysOut(t, l, "x", form("client_id", "a", "client_secret", "c"), api.ErrBasic)
	staysOut(t, l, header("no:x"), form("client_id", "a", "client_secret", "c"), api.ErrTwice)
	staysOut(t, l, header("no:x"), form("client_id", "a"), api.ErrProof)
	staysOut(t, l, header("no:x"), form("client_id", "no"), api.ErrClient)
	staysOut(t, l, header("till:x"), form("client_id", "till"), api.ErrProof)
	staysOut(t, l, "", form("client_secret", "a", "client_secret", "b"), api.ErrTwice)
	staysOut(t, l, "", form("client_secret", "a"), api.ErrNone)
	staysOut(t, l, "", form("client_id", "no", "client_secret", "a"), api.ErrClient)
	staysOut(t, l, "", form("client_id", "till", "client_secret", "a"), api.ErrProof)
}

// P11.6: of two clients with one Id the first counts; clients are not asked whether they are valid.
func TestProofFirst(t *testing.T) {
	one, two := api.Client{Id: "a", Secret: "1"}, api.Client{Id: "a", Secret: "2"}
	l := []api.Client{one, two}
	getsIn(t, l, header("a:1"), nil, one, api.ProofBasic)
	staysOut(t, l, header("a:2"), nil, api.ErrProof)
	getsIn(t, l, "", form("client_id", "a", "client_secret", "1"), one, api.ProofPost)
	staysOut(t, l, "", form("client_id", "a", "client_secret", "2"), api.ErrProof)
	none := api.Client{Secret: "s\n"}
	getsIn(t, []api.Client{none}, header(":s%0A"), nil, none, api.ProofBasic)
	staysOut(t, []api.Client{none}, "", form("client_secret", "s\n"), api.ErrNone)
}

// P11.6: all ways in which a header, a client_id and a client_secret stand beside one another, against the slow way.
func TestProofAgainstSlow(t *testing.T) {
	l := registered()
	texts := []string{"", "tv", "till", "box", "no", "s", "t", box().Secret}
	heads := []string{"", "x", "Basic " + coded("till:s") + "="}
	for _, name := range texts {
		for _, secret := range texts {
			heads = append(heads, header(slowEscaped(name)+":"+slowEscaped(secret)))
		}
	}
	parameters := func(name string) [][]api.Pair {
		all := [][]api.Pair{nil}
		for _, v := range texts {
			all = append(all, form(name, v), form(name, v, name, v), form(name, v, name, ""))
		}
		return all
	}
	count := map[api.Errno]int{}
	ways := map[int]int{}
	for _, h := range heads {
		for _, id := range parameters("client_id") {
			for _, secret := range parameters("client_secret") {
				f := append(append(form("a", "b"), secret...), id...)
				want, how, fault := slowProof(l, h, f)
				if c, w, e := client.Authenticate(l, h, f); !same(c, want) || w != how || e != fault {
					t.Fatalf("Authenticate(%q, %q): %q %d %d, not %q %d %d", h, f, c.Id, w, e, want.Id, how, fault)
				}
				count[fault]++
				if fault == api.OK {
					ways[how]++
				}
			}
		}
	}
	for _, e := range []api.Errno{api.OK, api.ErrTwice, api.ErrBasic, api.ErrProof, api.ErrClient, api.ErrNone} {
		if count[e] == 0 {
			t.Errorf("%d was never told", e)
		}
	}
	for how := range 3 {
		if ways[how] == 0 {
			t.Errorf("nobody got in by %d", how)
		}
	}
}
