package client_test

import (
	"cmp"
	"slices"
	"strings"
	"testing"
	"unsafe"

	"wicket/api"
	"wicket/client"
)

// span is a piece of memory, from low up to high.
type span struct{ low, high uintptr }

func spans(texts ...string) []span {
	var l []span
	for _, s := range texts {
		low := uintptr(unsafe.Pointer(unsafe.StringData(s)))
		l = append(l, span{low, low + uintptr(len(s))})
	}
	return l
}

// room is a list's memory, with its spare room.
func room[T any](l []T) span {
	var one T
	low := uintptr(unsafe.Pointer(unsafe.SliceData(l)))
	return span{low, low + uintptr(cap(l))*unsafe.Sizeof(one)}
}

func spansOf(c api.Client) []span {
	l := append(spans(c.Id, c.Secret, c.Url), room(c.Scopes))
	return append(l, spans(c.Scopes...)...)
}

func spansOfList(clients []api.Client) []span {
	l := []span{room(clients)}
	for _, c := range clients {
		l = append(l, spansOf(c)...)
	}
	return l
}

func spansOfForm(f []api.Pair) []span {
	l := []span{room(f)}
	for _, p := range f {
		l = append(l, spans(p.Name, p.Value)...)
	}
	return l
}

// apart: do no two of the spans share a byte?
func apart(groups ...[]span) bool {
	all := slices.Concat(groups...)
	all = slices.DeleteFunc(all, func(s span) bool { return s.low == s.high })
	slices.SortFunc(all, func(a, b span) int { return cmp.Compare(a.low, b.low) })
	for i := 1; i < len(all); i++ {
		if all[i].low < all[i-1].high {
			return false
		}
	}
	return true
}

// own is a text over memory of its own, which may be written into.
func own(s string) (string, []byte) {
	p := []byte(s)
	return unsafe.String(unsafe.SliceData(p), len(p)), p
}

func scribble(p []byte) {
	for i := range p {
		p[i] ^= 0xff
	}
}

// deep is a client over memory of its own, whose scopes have spare room with something in it.
func deep(c api.Client) api.Client {
	c.Id, c.Secret, c.Url = strings.Clone(c.Id), strings.Clone(c.Secret), strings.Clone(c.Url)
	var l []string
	for _, s := range c.Scopes {
		l = append(l, strings.Clone(s))
	}
	c.Scopes = append(l, "spare", "room")[:len(l)]
	return c
}

// roomy is some clients over memory of their own, with spare room with something in it.
func roomy(clients ...api.Client) []api.Client {
	var l []api.Client
	for _, c := range clients {
		l = append(l, deep(c))
	}
	return append(l, deep(api.Client{Id: "spare", Secret: "room", Grants: 1}), deep(box()))[:len(l)]
}

// deepForm is a form over memory of its own.
func deepForm(texts ...string) []api.Pair {
	var l []api.Pair
	for _, p := range form(texts...) {
		l = append(l, api.Pair{Name: strings.Clone(p.Name), Value: strings.Clone(p.Value)})
	}
	return l
}

// whole is all that a list has, its spare room and that of its scopes too, one by one.
func whole(clients []api.Client) []api.Client {
	var l []api.Client
	for _, c := range clients[:cap(clients)] {
		c.Scopes = slices.Clone(c.Scopes[:cap(c.Scopes)])
		l = append(l, c)
	}
	return l
}

// wipe writes over a list, its spare room and its clients' scopes.
func wipe(clients []api.Client) {
	for i, c := range clients[:cap(clients)] {
		for k := range c.Scopes[:cap(c.Scopes)] {
			c.Scopes[:cap(c.Scopes)][k] = "wiped"
		}
		clients[:cap(clients)][i] = api.Client{Id: "wiped"}
	}
}

// Rule 3: what Parse answers shares no memory with the text, with another answer, or within itself.
func TestParsedIsNewMemory(t *testing.T) {
	lines := tvLine + boxLine + "id=same&secret=same&grants=ciba&ping=yes&url=https://same&scope=same\n"
	want := []api.Client{tv(), box(), {Id: "same", Secret: "same", Grants: 2, Ping: true, Url: "https://same", Scopes: []string{"same"}}}
	text, bytes := own(lines)
	first, second := parsed(t, text), parsed(t, text)
	if text != lines {
		t.Error("the text has changed")
	}
	if !apart(spans(text), spansOfList(first), spansOfList(second)) {
		t.Error("what is answered shares memory")
	}
	scribble(bytes)
	wipe(first)
	if !sameList(second, want) {
		t.Errorf("what was answered has changed: %+v", second)
	}
	isParsed(t, lines, want...)
}

// Rule 3: Print changes no client and no spare room, and its text is new memory.
func TestPrintedIsNewMemory(t *testing.T) {
	l := roomy(tv(), box())
	was := whole(l)
	first, second := printed(t, l...), printed(t, l...)
	client.Print(l[:0])
	client.Print(append(roomy(tv(), tv()), api.Client{}))
	if !sameList(whole(l), was) {
		t.Error("the clients have changed")
	}
	if !apart(spans(first, second), spansOfList(l)) {
		t.Error("a text shares memory")
	}
	wipe(l)
	if first != tvLine+boxLine || second != first {
		t.Error("a text has changed")
	}
}

// Rule 3: Check changes no scopes, and no spare room.
func TestCheckChangesNothing(t *testing.T) {
	for _, c := range []api.Client{tv(), box(), {Id: "a", Grants: 1, Scopes: []string{"b", "a", "b"}}, {Id: "a", Scopes: scopesOf(33, 98)}} {
		c = deep(c)
		was := slices.Clone(c.Scopes[:cap(c.Scopes)])
		client.Check(c)
		if !slices.Equal(c.Scopes[:cap(c.Scopes)], was) {
			t.Errorf("%q: the scopes have changed", was)
		}
	}
}

// Rule 3: a client that is found or has shown itself is new memory; neither the list nor the form is changed.
func TestFoundIsNewMemory(t *testing.T) {
	l := roomy(tv(), box(), api.Client{Id: "odd", Secret: "odd", Url: "odd", Scopes: []string{"odd", "odd"}})
	was := whole(l)
	f := deepForm("client_id", "box", "other", "x", "spare", "room")[:2]
	body := deepForm("client_id", "box", "client_secret", box().Secret, "client_id", "spare")[:2]
	wasForm, wasBody := slices.Clone(f[:3]), slices.Clone(body[:3])
	id, head := strings.Clone("box"), strings.Clone(header("box:"+slowEscaped(box().Secret)))
	a, found := client.Find(l, id)
	b, _ := client.Find(l, id)
	c, how, e := client.Authenticate(l, head, f)
	d, way, g := client.Authenticate(l, "", body)
	odd, _ := client.Find(l, "odd")
	if !found || e != api.OK || how != api.ProofBasic || g != api.OK || way != api.ProofPost {
		t.Fatalf("%v, %d %d, %d %d", found, how, e, way, g)
	}
	if !sameList(whole(l), was) || !slices.Equal(f[:3], wasForm) || !slices.Equal(body[:3], wasBody) {
		t.Error("the arguments have changed")
	}
	if !apart(spansOfList(l), spansOfForm(f), spansOfForm(body), spans(id, head), spansOf(a), spansOf(b), spansOf(c), spansOf(d), spansOf(odd)) {
		t.Error("what is answered shares memory")
	}
	wipe(l)
	wipe([]api.Client{a})
	for _, x := range []api.Client{b, c, d} {
		if !same(x, box()) {
			t.Errorf("what was answered has changed: %+v", x)
		}
	}
}

// Rule 3: the texts of a header are new memory.
func TestBasicIsNewMemory(t *testing.T) {
	head, bytes := own(header("name:secret"))
	n, s, e := client.Basic(head)
	m, u, _ := client.Basic(head)
	if e != api.OK || !apart(spans(head, n, s, m, u)) {
		t.Errorf("%d, or what is answered shares memory", e)
	}
	scribble(bytes)
	if n != "name" || m != n || s != "secret" || u != s {
		t.Error("what was answered has changed with the header")
	}
}

// Rule 3: a text of scopes is new memory, that of a single one too; neither the scopes nor what was asked is changed.
func TestScopeIsNewMemory(t *testing.T) {
	for _, c := range []api.Client{tv(), {Scopes: []string{"single"}}, {Scopes: []string{"write", "read", "read"}}} {
		c = deep(c)
		was := slices.Clone(c.Scopes[:cap(c.Scopes)])
		for _, asked := range []string{"", strings.Clone(c.Scopes[0]), strings.Join(append(slices.Clone(c.Scopes), c.Scopes[0]), " ")} {
			text, bytes := own(asked)
			first, e := client.Scope(c, text)
			second, _ := client.Scope(c, text)
			if e != api.OK || text != asked || !slices.Equal(c.Scopes[:cap(c.Scopes)], was) {
				t.Errorf("Scope(%q, %q): %d, or the arguments have changed", c.Scopes, asked, e)
			}
			if !apart(spans(first, second, text), spansOf(c)) {
				t.Errorf("Scope(%q, %q) shares memory", c.Scopes, asked)
			}
			kept := strings.Clone(first)
			scribble(bytes)
			if first != kept || second != kept {
				t.Errorf("Scope(%q, %q) has changed with what was asked", c.Scopes, asked)
			}
		}
	}
}

// Rules 3 and 4: spare room is not seen, and nil is as an empty list.
func TestSpareRoomIsNotSeen(t *testing.T) {
	l := []api.Client{tv(), box(), tv()}
	isNotFound(t, l[:1], "box")
	isPrinted(t, tvLine, l[:1]...)
	isPrinted(t, tvLine+boxLine, l[:2]...)
	staysOut(t, l[:1], header("box:"+slowEscaped(box().Secret)), nil, api.ErrClient)
	f := form("client_id", "tv", "client_id", "tv", "client_secret", "x")
	getsIn(t, l, "", f[:1], tv(), api.ProofNone)
	staysOut(t, l, "", f[:0], api.ErrNone)
	c := tv()
	c.Scopes = append(c.Scopes, "xtra")[:2]
	scopeIs(t, c, "", "read write")
	scopeIsNot(t, c, "xtra")
	c.Scopes = []string{"a", "b", "a"}[:2]
	isValid(t, "spare room", c)
	isPrinted(t, "", []api.Client{}...)
}

// Rule 4: the same calls have the same answers, whatever came between.
func TestSameAgain(t *testing.T) {
	l := registered()
	for range 3 {
		isParsed(t, tvLine+boxLine, tv(), box())
		isNotParsed(t, tvLine+tvLine, api.ErrThere, 2)
		isPrinted(t, boxLine, box())
		isFound(t, l, "tv", tv())
		says(t, header("a:b"), "a", "b")
		saysNothing(t, "Basic")
		getsIn(t, l, header("till:s"), nil, till(), api.ProofBasic)
		staysOut(t, l, header("till:t"), nil, api.ErrProof)
		scopeIs(t, tv(), "write", "write")
		scopeIsNot(t, tv(), "admin")
	}
}
