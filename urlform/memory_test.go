package urlform_test

import (
	"math/rand"
	"slices"
	"strings"
	"testing"
	"unsafe"

	"wicket/api"
	"wicket/urlform"
)

// Rule 3: arguments are not changed, their spare room neither.
func TestArgumentsAreNotChanged(t *testing.T) {
	room := pairs("a", "x y", "b", "", "a", "2", "spare", "room", "more", "room")
	was := slices.Clone(room)
	for n := range 4 {
		urlform.Print(room[:n])
		urlform.One(room[:n], "a")
		urlform.One(room[:n], "c")
	}
	if !slices.Equal(room, was) {
		t.Errorf("pairs were changed: %q", room)
	}
	l, all := []string{"b", "a", "b", "spare"}, []string{"c", "b", "a", "room"}
	urlform.Within(l[:3], all[:3])
	urlform.Within(all[:3], l[:3])
	if strings.Join(l, " ")+"|"+strings.Join(all, " ") != "b a b spare|c b a room" {
		t.Errorf("lists were changed: %q %q", l, all)
	}
}

// Rules 3 and 4: what spare room an argument has is not to be seen in an answer.
func TestSpareRoomIsNotSeen(t *testing.T) {
	room := pairs("a", "1", "b", "2", "c", "3")
	if urlform.Print(room[:1]) != "a=1" {
		t.Errorf("Print saw spare room: %s", urlform.Print(room[:1]))
	}
	if v, there, e := urlform.One(room[:1], "b"); v != "" || there || e != api.OK {
		t.Errorf("One saw spare room: %q %v %d", v, there, e)
	}
	l := []string{"a", "b"}
	if urlform.Within(l, l[:1]) || !urlform.Within(l[:1], l[:1]) {
		t.Error("Within saw spare room")
	}
}

// Rule 3: a list that was answered is nobody else's, its spare room too.
func TestAnsweredListsAreNewMemory(t *testing.T) {
	const body, text = "a=1&b=2&c=3", "c b a b"
	one, two := parsed(t, body), parsed(t, body)
	for i := range one[:cap(one)] {
		one[:cap(one)][i] = api.Pair{Name: "x", Value: "y"}
	}
	_ = append(one, pairs("p", "q", "r", "s")...)
	if want := pairs("a", "1", "b", "2", "c", "3"); !slices.Equal(two, want) || !slices.Equal(parsed(t, body), want) {
		t.Errorf("lists of pairs share memory: %q", two)
	}
	first, second := scopesOf(t, text), scopesOf(t, text)
	for i := range first[:cap(first)] {
		first[:cap(first)][i] = "x"
	}
	_ = append(first, "p", "q", "r")
	if want := []string{"a", "b", "c"}; !slices.Equal(second, want) || !slices.Equal(scopesOf(t, text), want) {
		t.Errorf("lists of scopes share memory: %q", second)
	}
}

// apart: whether no two of the texts lie on the same bytes.
func apart(texts ...string) bool {
	for i, a := range texts {
		for _, b := range texts[:i] {
			if a == "" || b == "" {
				continue
			}
			low, lowB := uintptr(unsafe.Pointer(unsafe.StringData(a))), uintptr(unsafe.Pointer(unsafe.StringData(b)))
			if low < lowB+uintptr(len(b)) && lowB < low+uintptr(len(a)) {
				return false
			}
		}
	}
	return true
}

// Rule 3: a text that is answered lies on bytes of its own, so that it holds no request in memory.
func TestAnsweredTextsAreNewMemory(t *testing.T) {
	plain := strings.Repeat("plain", 8)
	text, _, _ := urlform.Unescape(plain)
	if !apart(plain, text, urlform.Escape(plain)) {
		t.Error("Escape or Unescape answers its argument")
	}
	body := strings.Clone("alpha=beta&gamma=delta&alpha=beta")
	texts := []string{body}
	for _, p := range parsed(t, body) {
		texts = append(texts, p.Name, p.Value)
	}
	if !apart(texts...) {
		t.Error("Parse's texts share memory")
	}
	l := pairs(strings.Clone("name"), strings.Clone("value"))
	value, _, _ := urlform.One(l, "name")
	again, _, _ := urlform.One(l, "name")
	if !apart(l[0].Name, l[0].Value, value, again) {
		t.Error("One's text shares memory")
	}
	scopes := strings.Clone("write read admin")
	if !apart(append(scopesOf(t, scopes), scopes)...) || !apart(append(scopesOf(t, plain), plain)...) {
		t.Error("scopes share memory")
	}
}

// Rule 3: nil and an empty list are the same where they are handed in.
func TestNilIsEmpty(t *testing.T) {
	none, noText := []api.Pair{}, []string{}
	if urlform.Print(nil) != urlform.Print(none) || urlform.Within(nil, noText) != urlform.Within(noText, nil) {
		t.Error("nil is told from empty")
	}
	a, there, e := urlform.One(nil, "a")
	b, thereToo, f := urlform.One(none, "a")
	if a != b || there != thereToo || e != f {
		t.Error("One tells nil from empty")
	}
}

// Rule 4: the same arguments have the same answers, whatever was asked between.
func TestAnswersHangOnArgumentsAlone(t *testing.T) {
	r := rand.New(rand.NewSource(31))
	for range 500 {
		body, text := drawnOf(r, "ab=&%41+", 40), drawnOf(r, "ab !", 20)
		l, e, at := urlform.Parse(body)
		scopes, fault := urlform.Scopes(text)
		urlform.Parse(drawn(r, 40))
		urlform.Scopes(drawn(r, 40))
		m, f, place := urlform.Parse(body)
		others, again := urlform.Scopes(text)
		if !slices.Equal(l, m) || e != f || at != place || !slices.Equal(scopes, others) || fault != again {
			t.Fatalf("two answers of %q or %q", body, text)
		}
	}
}
