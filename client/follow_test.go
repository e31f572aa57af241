package client_test

import (
	"strings"
	"testing"

	"wicket/api"
	"wicket/client"
)

// P11.8: what is printed is read back.
func TestPrintedIsRead(t *testing.T) {
	r := seeded(8)
	for range 3000 {
		var l []api.Client
		for range r.Intn(6) {
			l = append(l, drawnClient(r))
		}
		if s, e := client.Print(l); e == api.OK {
			isParsed(t, s, l...)
		}
	}
	isParsed(t, printed(t, many(256)...), many(256)...)
	isParsed(t, printed(t, filled()...), filled()...)
	isParsed(t, printed(t))
}

// P11.8: the longest line of a client is read back, and a full registry of long ones is not too long for its reader.
func TestLongestIsRead(t *testing.T) {
	odd := func(n int) string { return strings.Repeat("~", n) }
	c := api.Client{Id: odd(64), Secret: odd(256), Grants: 3, Ping: true, Url: "https://" + odd(248), Scopes: []string{odd(256)}}
	isParsed(t, printed(t, c), c)
	var l []api.Client
	for i := 0; ; i++ {
		c.Id = odd(i/9) + strings.Repeat("!", i%9+1)
		s, e := client.Print(append(l, c))
		if e != api.OK {
			if e != api.ErrLong || len(l) < 20 {
				t.Errorf("%d clients: %d", len(l), e)
			}
			break
		}
		l = append(l, c)
		isParsed(t, s, l...)
	}
}

// P11.8: what was read and is printed says the same clients; printed once more it is the same text.
func TestReadIsPrinted(t *testing.T) {
	r := seeded(9)
	count := 0
	for range 10000 {
		text := drawnRegistry(r)
		l, e, _ := client.Parse(text)
		if e != api.OK || len(l) == 0 {
			continue
		}
		count++
		s := printed(t, l...)
		isParsed(t, s, l...)
		isPrinted(t, s, parsed(t, s)...)
	}
	if count < 1000 {
		t.Errorf("%d registries were read", count)
	}
}

// secrets that are near to s, and s itself at their head.
func near(s string) []string {
	l := []string{s, "", s + s, s + " ", " " + s, s + "\x00", s[1:], s[:len(s)-1], strings.ToUpper(s), strings.ToLower(s), slowEscaped(s), ":" + s, s + ":"}
	for i := range len(s) {
		p := []byte(s)
		p[i] ^= 1
		l = append(l, string(p))
	}
	return l
}

// P11.9: of a client with a secret, nobody gets in but by just this secret, in the header or in the body, whatever other clients there are.
func TestNobodyWithoutTheSecret(t *testing.T) {
	r := seeded(10)
	for range 60 {
		c := drawnClient(r)
		c.Secret += drawnText(r, 2, 20, 33)
		lists := [][]api.Client{{c}, {tv(), c, box()}, {c, {Id: "x" + c.Id, Secret: c.Secret + "s"}, {Id: "other", Secret: ""}}}
		for _, l := range lists {
			for _, secret := range near(c.Secret) {
				head := header(slowEscaped(c.Id) + ":" + slowEscaped(secret))
				body := form("client_id", c.Id, "client_secret", secret)
				if secret == c.Secret {
					getsIn(t, l, head, nil, c, api.ProofBasic)
					getsIn(t, l, head, form("client_id", c.Id), c, api.ProofBasic)
					getsIn(t, l, "", body, c, api.ProofPost)
					continue
				}
				if len(head) <= 1024 {
					staysOut(t, l, head, nil, api.ErrProof)
					staysOut(t, l, head, form("client_id", c.Id), api.ErrProof)
				}
				staysOut(t, l, "", body, api.ErrProof)
			}
			staysOut(t, l, "", form("client_id", c.Id), api.ErrProof)
		}
	}
}

// P11.9: another's secret is no secret of one's own.
func TestOthersSecrets(t *testing.T) {
	l := many(40)
	for i := range l {
		l[i].Secret = "secret of " + l[i].Id
	}
	for _, c := range l {
		for _, d := range l {
			head, body := header(c.Id+":"+slowEscaped(d.Secret)), form("client_id", c.Id, "client_secret", d.Secret)
			if c.Id == d.Id {
				getsIn(t, l, head, nil, c, api.ProofBasic)
				getsIn(t, l, "", body, c, api.ProofPost)
				continue
			}
			staysOut(t, l, head, nil, api.ErrProof)
			staysOut(t, l, "", body, api.ErrProof)
		}
	}
}

// P11.10: each scope that is answered is the client's.
func TestNoOtherScope(t *testing.T) {
	r := seeded(11)
	answered := 0
	for range 20000 {
		c := drawnClient(r)
		words := append(drawnScopes(r), c.Scopes...)
		if r.Intn(2) == 0 {
			words = c.Scopes
		}
		var picked []string
		for range r.Intn(4) * min(1, len(words)) {
			picked = append(picked, words[r.Intn(len(words))])
		}
		asked := strings.Join(picked, " ")
		s, e := client.Scope(c, asked)
		if e != api.OK || s == "" {
			continue
		}
		answered++
		for _, scope := range strings.Split(s, " ") {
			if !strings.Contains(" "+strings.Join(c.Scopes, " ")+" ", " "+scope+" ") {
				t.Fatalf("Scope(%q, %q): %q", c.Scopes, asked, s)
			}
		}
	}
	if answered < 2000 {
		t.Errorf("%d were answered", answered)
	}
}
