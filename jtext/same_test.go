package jtext_test

import (
	"math/rand"
	"slices"
	"strings"
	"testing"

	"wicket/api"
	"wicket/jtext"
)

// P4.5, the chapter's example 6 among them.
func TestSame(t *testing.T) {
	for _, x := range []struct {
		a, b string
		want bool
	}{
		{`{"b":1,"a":2}`, `{"a":2,"b":1}`, true}, {"1", "1.0", false}, {"1", "1", true}, {"1", `"1"`, false}, {"0", "-0", false}, {"1e5", "1E5", false},
		{"null", "null", true}, {"null", "false", false}, {"true", "false", false}, {"null", "0", false}, {`""`, "null", false}, {"[]", "{}", false}, {"[]", "[ ]", true}, {"{}", "{ }", true},
		{`"a"`, `"\u0061"`, true}, {`"a"`, `"A"`, false}, {`"é"`, `"e\u0301"`, false}, {"[1,2]", "[2,1]", false}, {"[1,2]", "[1,2]", true}, {"[1]", "[1,1]", false}, {"[[]]", "[[[]]]", false},
		{`{"a":1}`, `{"a":2}`, false}, {`{"a":1}`, `{"b":1}`, false}, {`{"a":1}`, `{"a":1,"b":1}`, false}, {`{"a":1,"b":2}`, `{"a":2,"b":1}`, false}, {`{"a":1,"b":2}`, `{"a":1,"c":2}`, false},
		{`[{"a":[{"c":1,"b":2}],"d":3}]`, `[{"d":3,"a":[{"b":2,"c":1}]}]`, true}, {`[{"a":[{"c":1,"b":2}]}]`, `[{"a":[{"c":2,"b":1}]}]`, false},
	} {
		a, b := parsed(t, x.a), parsed(t, x.b)
		if jtext.Same(a, b) != x.want || jtext.Same(b, a) != x.want || !jtext.Same(a, a) || !jtext.Same(b, b) {
			t.Errorf("Same of %s and %s is not %v, or they are not the same as themselves", x.a, x.b, x.want)
		}
	}
}

// P4.5: what is no value is the same as nothing, itself not excepted.
func TestSameOfNoValue(t *testing.T) {
	for _, v := range []api.Json{
		{Kind: 9}, {Kind: -1}, {Text: "x"}, num("1."), num(""), txt("\xff"), {Kind: api.JsonText, Items: []api.Json{null}}, {Kind: api.JsonTrue, Names: []string{"a"}}, {Kind: api.JsonList, Names: []string{"a"}, Items: []api.Json{null}},
		obj([]string{"a", "a"}, null, null), obj([]string{"a"}), obj(nil, null), obj([]string{"\xff"}, null), nested(api.MaxDepth, lst()), nested(api.MaxDepth, empty), nested(60000, null),
	} {
		for _, w := range []api.Json{v, lst(v), obj([]string{"a"}, v), lst(null, lst(v))} {
			if jtext.Same(w, w) || jtext.Same(w, null) || jtext.Same(null, w) || jtext.Same(w, twin(w)) {
				t.Errorf("%.80v is the same as something", w)
			}
		}
	}
	for _, v := range []api.Json{nested(api.MaxDepth, null), nested(api.MaxDepth-1, lst()), nested(api.MaxDepth-1, empty)} {
		if !jtext.Same(v, twin(v)) {
			t.Errorf("%.80v is not the same as itself", v)
		}
	}
	if !jtext.Same(api.Json{Kind: api.JsonList, Names: []string{}, Items: []api.Json{}}, lst()) {
		t.Error("Same tells nil from empty")
	}
}

// P4.5: of whatever length the texts are.
func TestSameOfLongValues(t *testing.T) {
	long := strings.Repeat("é", api.MaxJson)
	if !jtext.Same(txt(long), txt(strings.Clone(long))) || jtext.Same(txt(long), txt(long+"a")) {
		t.Error("long texts")
	}
	names, items := []string{}, []api.Json{}
	for i := range 20000 {
		names = append(names, "name"+strings.Repeat("x", i%50)+string(rune('a'+i%26))+slowNumber(i))
		items = append(items, num(slowNumber(i)))
	}
	a, b := obj(names, items...), obj(slices.Clone(names), slices.Clone(items)...)
	slices.Reverse(b.Names)
	slices.Reverse(b.Items)
	if !jtext.Same(a, b) {
		t.Error("long objects")
	}
	b.Items[7] = num("0.5")
	if jtext.Same(a, b) || jtext.Same(b, a) {
		t.Error("long objects that differ in one item")
	}
	c := twin(a)
	c.Names[19999] = c.Names[0]
	if jtext.Same(c, c) {
		t.Error("a long object with a name twice")
	}
}

func slowNumber(n int) string {
	s := ""
	for ; n > 9; n /= 10 {
		s = string(rune('0'+n%10)) + s
	}
	return string(rune('0'+n)) + s
}

// P4.5 and P4.8, held against the slow way: both are values, and their texts in order are alike.
func TestSameAgainstTheSlowWay(t *testing.T) {
	r := rand.New(rand.NewSource(47))
	alike, unlike, none := 0, 0, 0
	for range 30000 {
		a := drawnValue(r, 2)
		b := shuffled(r, a)
		for range r.Intn(3) {
			b = spoilt(r, b)
		}
		if r.Intn(8) == 0 {
			a = spoilt(r, a)
		}
		one, e := slowCanon(a, 1<<20)
		two, f := slowCanon(b, 1<<20)
		want := e == api.OK && f == api.OK && one == two
		if jtext.Same(a, b) != want || jtext.Same(b, a) != want {
			t.Fatalf("Same(%v, %v) is not %v", a, b, want)
		}
		switch {
		case want:
			alike++
		case e == api.OK && f == api.OK:
			unlike++
		default:
			none++
		}
	}
	if alike < 1000 || unlike < 1000 || none < 1000 {
		t.Errorf("too few of a kind were drawn: %d %d %d", alike, unlike, none)
	}
}
