package client_test

import (
	"encoding/base64"
	"fmt"
	"math/rand"
	"slices"
	"strings"
	"testing"

	"wicket/api"
	"wicket/client"
)

// tv has no secret; box has all that a client may have.
func tv() api.Client {
	return api.Client{Id: "tv", Grants: api.GrantDevice, Scopes: []string{"read", "write"}}
}

func box() api.Client {
	return api.Client{Id: "box", Secret: "se cr:et+&%=", Grants: api.GrantCiba | api.GrantDevice, Ping: true, Url: "https://box/cb?a=b&c", Scopes: []string{"films", "read"}}
}

const (
	tvLine  = "id=tv&grants=device&scope=read+write\n"
	boxLine = "id=box&secret=se+cr%3Aet%2B%26%25%3D&grants=ciba+device&ping=yes&url=https%3A%2F%2Fbox%2Fcb%3Fa%3Db%26c&scope=films+read\n"
)

// same: do a and b say the same client?
func same(a, b api.Client) bool {
	return a.Id == b.Id && a.Secret == b.Secret && a.Grants == b.Grants && a.Ping == b.Ping && a.Url == b.Url && slices.Equal(a.Scopes, b.Scopes)
}

func sameList(a, b []api.Client) bool { return slices.EqualFunc(a, b, same) }

// isZero: is c as it is beside an error?
func isZero(c api.Client) bool { return same(c, api.Client{}) && c.Scopes == nil }

// with is box, changed.
func with(change func(c *api.Client)) api.Client {
	c := box()
	change(&c)
	return c
}

// many is so many valid clients, no two alike.
func many(n int) []api.Client {
	var l []api.Client
	for i := range n {
		l = append(l, api.Client{Id: fmt.Sprintf("c%04d", i), Grants: api.GrantDevice})
	}
	return l
}

// filled is 256 clients each of whose lines has 256 bytes, so that their text has 65536.
func filled() []api.Client {
	l := many(256)
	for i := range l {
		l[i].Secret = strings.Repeat("s", 256-len("id=c0000&secret=&grants=device\n"))
	}
	return l
}

// scopesOf is count scopes, rising, whose text has that many bytes; each has at least two.
func scopesOf(count, bytes int) []string {
	var l []string
	for i := range count {
		l = append(l, string([]byte{byte('A' + i/26), byte('a' + i%26)}))
	}
	more := bytes - (3*count - 1)
	l[count-1] += strings.Repeat("z", more)
	return l
}

func parsed(t *testing.T, text string) []api.Client {
	t.Helper()
	l, e, at := client.Parse(text)
	if e != api.OK || at != 0 {
		t.Fatalf("Parse(%.60q): %d %d", text, e, at)
	}
	return l
}

func isParsed(t *testing.T, text string, want ...api.Client) {
	t.Helper()
	if l := parsed(t, text); !sameList(l, want) {
		t.Errorf("Parse(%.60q): %.60v, not %.60v", text, l, want)
	}
}

// isNotParsed: text has no clients, and that fault at that line.
func isNotParsed(t *testing.T, text string, fault api.Errno, line int) {
	t.Helper()
	if l, e, at := client.Parse(text); len(l) != 0 || e != fault || at != line {
		t.Errorf("Parse(%.80q): %d clients, %d %d, not %d %d", text, len(l), e, at, fault, line)
	}
}

func printed(t *testing.T, l ...api.Client) string {
	t.Helper()
	s, e := client.Print(l)
	if e != api.OK {
		t.Fatalf("Print(%.60v): %d", l, e)
	}
	return s
}

func isPrinted(t *testing.T, want string, l ...api.Client) {
	t.Helper()
	if s := printed(t, l...); s != want {
		t.Errorf("Print(%.60v): %.200q, not %.200q", l, s, want)
	}
}

func isNotPrinted(t *testing.T, what string, l []api.Client, fault api.Errno) {
	t.Helper()
	if s, e := client.Print(l); s != "" || e != fault {
		t.Errorf("%s: Print: %.60q %d, not %d", what, s, e, fault)
	}
}

// isValid: c is valid wherever that is asked.
func isValid(t *testing.T, what string, c api.Client) {
	t.Helper()
	if e := client.Check(c); e != api.OK {
		t.Errorf("%s: Check: %d", what, e)
	}
	if s, e := client.Print([]api.Client{c}); e != api.OK {
		t.Errorf("%s: Print: %d", what, e)
	} else {
		isParsed(t, s, c)
	}
}

// isNotValid: c is refused wherever it is asked, alone and behind another.
func isNotValid(t *testing.T, what string, c api.Client) {
	t.Helper()
	if e := client.Check(c); e != api.ErrClient {
		t.Errorf("%s: Check: %d", what, e)
	}
	isNotPrinted(t, what, []api.Client{c}, api.ErrClient)
	isNotPrinted(t, what, []api.Client{tv(), c}, api.ErrClient)
}

// coded is the base64 of the common alphabet, by the library.
func coded(s string) string { return base64.StdEncoding.EncodeToString([]byte(s)) }

// header is one whose base64 says s.
func header(s string) string { return "Basic " + coded(s) }

func says(t *testing.T, head, name, secret string) {
	t.Helper()
	if n, s, e := client.Basic(head); n != name || s != secret || e != api.OK {
		t.Errorf("Basic(%.80q): %.60q %.60q %d, not %.60q %.60q", head, n, s, e, name, secret)
	}
}

func saysNothing(t *testing.T, head string) {
	t.Helper()
	if n, s, e := client.Basic(head); n != "" || s != "" || e != api.ErrBasic {
		t.Errorf("Basic(%.80q): %.60q %.60q %d, not %d", head, n, s, e, api.ErrBasic)
	}
}

// form is pairs of names and values, told in turn.
func form(texts ...string) []api.Pair {
	var l []api.Pair
	for i := 0; i < len(texts); i += 2 {
		l = append(l, api.Pair{Name: texts[i], Value: texts[i+1]})
	}
	return l
}

func getsIn(t *testing.T, l []api.Client, head string, f []api.Pair, want api.Client, how int) {
	t.Helper()
	if c, h, e := client.Authenticate(l, head, f); !same(c, want) || h != how || e != api.OK {
		t.Errorf("Authenticate(%.60q, %.100q): %.60q %d %d, not %.60q %d", head, f, c.Id, h, e, want.Id, how)
	}
}

func staysOut(t *testing.T, l []api.Client, head string, f []api.Pair, fault api.Errno) {
	t.Helper()
	if c, h, e := client.Authenticate(l, head, f); !isZero(c) || h != 0 || e != fault {
		t.Errorf("Authenticate(%.60q, %.100q): %.60q %d %d, not %d", head, f, c.Id, h, e, fault)
	}
}

func scopeIs(t *testing.T, c api.Client, asked, want string) {
	t.Helper()
	if s, e := client.Scope(c, asked); s != want || e != api.OK {
		t.Errorf("Scope(%.60q, %.60q): %.60q %d, not %.60q", c.Scopes, asked, s, e, want)
	}
}

func scopeIsNot(t *testing.T, c api.Client, asked string) {
	t.Helper()
	if s, e := client.Scope(c, asked); s != "" || e != api.ErrScope {
		t.Errorf("Scope(%.60q, %.60q): %.60q %d, not %d", c.Scopes, asked, s, e, api.ErrScope)
	}
}

// drawnText is a text of least to most bytes, each from low to 126.
func drawnText(r *rand.Rand, least, most int, low byte) string {
	p := make([]byte, least+r.Intn(most-least+1))
	for i := range p {
		p[i] = low + byte(r.Intn(127-int(low)))
	}
	return string(p)
}

func drawnScopes(r *rand.Rand) []string {
	const bytes = "!#$+&%=,:;<>?@[]^_`{|}~ABZabz019"
	var l []string
	room := 256
	for range r.Intn(34) {
		p := make([]byte, 1+r.Intn([]int{2, 8, 30}[r.Intn(3)]))
		for i := range p {
			p[i] = bytes[r.Intn(len(bytes))]
		}
		if room -= len(p) + 1; room < 0 || len(l) == 32 {
			break
		}
		l = append(l, string(p))
	}
	slices.Sort(l)
	return slices.Compact(l)
}

// drawnClient is a valid one.
func drawnClient(r *rand.Rand) api.Client {
	most := []int{1, 6, 64}[r.Intn(3)]
	c := api.Client{Id: drawnText(r, 1, most, 33), Secret: drawnText(r, 0, 4*most, 32), Grants: 1 + r.Intn(3), Scopes: drawnScopes(r)}
	if c.Grants >= api.GrantCiba && c.Secret != "" && r.Intn(2) == 0 {
		c.Ping, c.Url = true, "https://"+drawnText(r, 1, []int{3, 40, 248}[r.Intn(3)], 33)
	}
	return c
}
