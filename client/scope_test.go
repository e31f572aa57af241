package client_test

import (
	"strings"
	"testing"

	"wicket/api"
	"wicket/client"
)

// P11.7: the chapter's examples.
func TestScopeExamples(t *testing.T) {
	scopeIs(t, tv(), "", "read write")
	scopeIs(t, tv(), "write", "write")
	scopeIs(t, tv(), "write write read", "read write")
	scopeIsNot(t, tv(), "admin")
	scopeIsNot(t, tv(), "a  b")
}

// P11.7: what is asked for comes rising, each once, if all of it is the client's.
func TestScope(t *testing.T) {
	c := api.Client{Id: "a", Grants: 1, Scopes: []string{"B", "a", "ab", "b", "~"}}
	scopeIs(t, c, "~ b ab a B", "B a ab b ~")
	scopeIs(t, c, "b B b", "B b")
	scopeIs(t, c, "ab", "ab")
	for _, asked := range []string{"c", "A", "abc", "a c", "c a", "a b c ~", "aa", "a,b", "a+b"} {
		scopeIsNot(t, c, asked)
	}
}

// P11.7: what is no list of scopes is refused, whatever its error is, even where its scopes are the client's.
func TestScopeLists(t *testing.T) {
	for _, asked := range []string{" ", "  ", " read", "read ", "read  write", "read\twrite", "read\nwrite", "\"", "read\\", "\x00", "read\x7f", "\xff"} {
		scopeIsNot(t, tv(), asked)
	}
	many := api.Client{Scopes: scopesOf(33, 98)}
	scopeIs(t, many, strings.Join(many.Scopes[:32], " "), strings.Join(many.Scopes[:32], " "))
	scopeIsNot(t, many, strings.Join(many.Scopes, " "))
	long := api.Client{Scopes: []string{strings.Repeat("s", 256), strings.Repeat("s", 257)}}
	scopeIs(t, long, long.Scopes[0], long.Scopes[0])
	scopeIsNot(t, long, long.Scopes[1])
	scopeIs(t, tv(), strings.Repeat("read ", 50)+"read", "read")
	scopeIsNot(t, tv(), strings.Repeat("read ", 51)+"read")
}

// P11.7: a client without scopes may ask for none; one whose scopes stand in another order has them as they stand.
func TestScopeNone(t *testing.T) {
	for _, none := range [][]string{nil, {}} {
		scopeIs(t, api.Client{Id: "a", Grants: 1, Scopes: none}, "", "")
		scopeIsNot(t, api.Client{Id: "a", Grants: 1, Scopes: none}, "read")
	}
	c := api.Client{Scopes: []string{"b", "a", "b"}}
	scopeIs(t, c, "", "b a b")
	scopeIs(t, c, "b a", "a b")
	scopeIs(t, api.Client{Scopes: []string{"one"}}, "", "one")
	scopeIs(t, api.Client{Scopes: many300()}, "", strings.Join(many300(), " "))
}

// many300 is more than a text of scopes holds.
func many300() []string {
	return strings.Split(strings.Repeat("scope ", 299)+"scope", " ")
}

// P11.7: drawn scopes against the slow way.
func TestScopeAgainstSlow(t *testing.T) {
	r := seeded(7)
	count := map[api.Errno]int{}
	for range 20000 {
		c := drawnClient(r)
		var words []string
		for range 1 + r.Intn(4) {
			if len(c.Scopes) > 0 && r.Intn(8) > 0 {
				words = append(words, c.Scopes[r.Intn(len(c.Scopes))])
			} else {
				words = append(words, []string{"a", "", "zz", "\""}[r.Intn(4)])
			}
		}
		asked := strings.Join(words, " ")
		want, fault := slowAsked(c, asked)
		if s, e := client.Scope(c, asked); s != want || e != fault {
			t.Fatalf("Scope(%q, %q): %q %d, not %q %d", c.Scopes, asked, s, e, want, fault)
		}
		count[fault]++
	}
	if count[api.OK] < 3000 || count[api.ErrScope] < 3000 {
		t.Errorf("told: %v", count)
	}
}

// slowAsked is Scope by the chapter's words.
func slowAsked(c api.Client, asked string) (string, api.Errno) {
	if asked == "" {
		return strings.Join(c.Scopes, " "), api.OK
	}
	l, ok := slowScopes(asked)
	for _, s := range l {
		if !strings.Contains(" "+strings.Join(c.Scopes, " ")+" ", " "+s+" ") {
			ok = false
		}
	}
	if !ok {
		return "", api.ErrScope
	}
	return strings.Join(l, " "), api.OK
}
