package jtext_test

import (
	"fmt"
	"math"
	"math/big"
	"math/rand"
	"strings"
	"testing"

	"wicket/api"
	"wicket/jtext"
)

// P4.6.
func TestGet(t *testing.T) {
	v := obj([]string{"a", "b", "", "a", "c", "d"}, num("1"), lst(txt("x"), empty), yes, num("2"), null)
	for _, x := range []struct {
		name  string
		want  api.Json
		there bool
	}{
		{"a", num("1"), true}, {"b", lst(txt("x"), empty), true}, {"", yes, true}, {"c", null, true},
		{"d", null, false}, {"A", null, false}, {"aa", null, false}, {"x", null, false}, {"\xff", null, false},
	} {
		if got, there := jtext.Get(v, x.name); !equal(got, x.want) || there != x.there {
			t.Errorf("Get(%q): %v %v", x.name, got, there)
		}
	}
}

// P4.6: of another Json than an object there is nothing, though it has Names; of an object that is no value there is what stands.
func TestGetOfNoValue(t *testing.T) {
	for kind := -2; kind < 10; kind++ {
		v := api.Json{Kind: kind, Text: "x", Names: []string{"a"}, Items: []api.Json{num("1")}}
		got, there := jtext.Get(v, "a")
		if kind == api.JsonObject && (!there || got.Text != "1") || kind != api.JsonObject && (there || !isZero(got)) {
			t.Errorf("Get of the kind %d: %v %v", kind, got, there)
		}
	}
	for _, x := range []struct {
		v     api.Json
		name  string
		there bool
	}{
		{empty, "", false}, {obj(nil, yes), "", false}, {obj([]string{"a"}), "a", false}, {obj([]string{"a", "b"}, yes), "a", true}, {obj([]string{"a", "b"}, yes), "b", false},
		{obj([]string{"a"}, yes, no), "a", true}, {obj([]string{"b", "a", "a"}, no, yes), "a", true}, {obj([]string{"\xff"}, yes), "\xff", true},
	} {
		got, there := jtext.Get(x.v, x.name)
		if there != x.there || there && !equal(got, yes) || !there && !isZero(got) {
			t.Errorf("Get(%v, %q): %v %v", x.v, x.name, got, there)
		}
	}
	odd := obj([]string{"a"}, api.Json{Kind: 77, Text: "\xff", Names: []string{"\xff", "q"}, Items: []api.Json{num("x")}})
	if got, there := jtext.Get(odd, "a"); !there || !equal(got, odd.Items[0]) {
		t.Errorf("Get: %v %v", got, there)
	}
	if got, there := jtext.Get(obj([]string{"a"}, nested(60000, yes)), "a"); !there || got.Kind != api.JsonList {
		t.Error("Get of what is nested deep")
	}
}

// P4.6, the chapter's example 7 among them.
func TestNumbersAsked(t *testing.T) {
	for _, x := range []struct {
		text   string
		n      int
		isInt  bool
		u      uint64
		isUint bool
	}{
		{"0", 0, true, 0, true}, {"-0", 0, false, 0, false}, {"7", 7, true, 7, true}, {"-7", -7, true, 0, false}, {"10", 10, true, 10, true}, {"-10", -10, true, 0, false}, {"1000000", 1000000, true, 1000000, true},
		{"9223372036854775807", math.MaxInt64, true, math.MaxInt64, true}, {"9223372036854775808", 0, false, 1 << 63, true}, {"-9223372036854775808", math.MinInt64, true, 0, false}, {"-9223372036854775809", 0, false, 0, false},
		{"18446744073709551615", 0, false, math.MaxUint64, true}, {"18446744073709551616", 0, false, 0, false}, {"-18446744073709551615", 0, false, 0, false}, {"99999999999999999999", 0, false, 0, false},
		{"1e3", 0, false, 0, false}, {"1.0", 0, false, 0, false}, {"1.", 0, false, 0, false}, {"01", 0, false, 0, false}, {"00", 0, false, 0, false}, {"-01", 0, false, 0, false}, {"+1", 0, false, 0, false}, {"", 0, false, 0, false}, {"-", 0, false, 0, false}, {"--1", 0, false, 0, false},
		{" 1", 0, false, 0, false}, {"1 ", 0, false, 0, false}, {"1_0", 0, false, 0, false}, {"0x1", 0, false, 0, false}, {"1\x00", 0, false, 0, false}, {"١", 0, false, 0, false}, {"a", 0, false, 0, false}, {"/", 0, false, 0, false}, {":", 0, false, 0, false},
	} {
		n, isInt := jtext.Int(num(x.text))
		u, isUint := jtext.Uint(num(x.text))
		if n != x.n || isInt != x.isInt || u != x.u || isUint != x.isUint {
			t.Errorf("%q: %d %v, %d %v", x.text, n, isInt, u, isUint)
		}
	}
	long := num(strings.Repeat("1", 1<<20))
	if n, ok := jtext.Int(long); n != 0 || ok {
		t.Error("Int of a long number")
	}
	if n, ok := jtext.Uint(long); n != 0 || ok {
		t.Error("Uint of a long number")
	}
}

// P4.6: the kind must be a number's; whether it is a value is not asked.
func TestNumbersOfKinds(t *testing.T) {
	for kind := -2; kind < 10; kind++ {
		v := api.Json{Kind: kind, Text: "12", Names: []string{"a"}, Items: []api.Json{null}}
		n, isInt := jtext.Int(v)
		u, isUint := jtext.Uint(v)
		if kind == api.JsonNumber && (n != 12 || u != 12 || !isInt || !isUint) || kind != api.JsonNumber && (n != 0 || u != 0 || isInt || isUint) {
			t.Errorf("the kind %d: %d %v, %d %v", kind, n, isInt, u, isUint)
		}
	}
}

// P4.6, held against numbers without bounds.
func TestNumbersAgainstTheLibrary(t *testing.T) {
	r := rand.New(rand.NewSource(48))
	for range 30000 {
		text := drawnOf(r, "0123456789", 21)
		if r.Intn(2) == 0 {
			text = "-" + text
		}
		b, ok := new(big.Int).SetString(text, 10)
		inForm := ok && b.String() == text
		n, isInt := jtext.Int(num(text))
		u, isUint := jtext.Uint(num(text))
		if isInt != (inForm && b.IsInt64()) || isInt && int64(n) != b.Int64() || !isInt && n != 0 {
			t.Fatalf("Int of %q: %d %v", text, n, isInt)
		}
		if isUint != (inForm && b.IsUint64()) || isUint && u != b.Uint64() || !isUint && u != 0 {
			t.Fatalf("Uint of %q: %d %v", text, u, isUint)
		}
	}
}

// P4.7: what is made has that Kind and these fields, and no others.
func TestMaking(t *testing.T) {
	for _, s := range []string{"", "a", "é\n", "\xff", strings.Repeat("a", 1<<20)} {
		if v := jtext.Text(s); !equal(v, txt(s)) {
			t.Errorf("Text(%.20q): %.60v", s, v)
		}
	}
	for _, n := range []uint64{0, 1, 9, 10, 12345, 1 << 63, math.MaxUint64} {
		v := jtext.Number(n)
		u, ok := jtext.Uint(v)
		if !equal(v, num(fmt.Sprint(n))) || !ok || u != n {
			t.Errorf("Number(%d): %v", n, v)
		}
	}
	if !equal(jtext.Bool(true), yes) || !equal(jtext.Bool(false), no) {
		t.Error("Bool")
	}
	if !equal(jtext.List(), lst()) || !equal(jtext.List(num("1"), lst(yes)), lst(num("1"), lst(yes))) {
		t.Error("List")
	}
	if !equal(jtext.Object(nil), empty) || !equal(jtext.Object([]string{"b", "a"}, num("1"), empty), obj([]string{"b", "a"}, num("1"), empty)) {
		t.Error("Object")
	}
}

// P4.7: whether it is a value is not asked.
func TestMakingNoValue(t *testing.T) {
	odd := api.Json{Kind: 9, Text: "\xff", Names: []string{"a", "a"}, Items: []api.Json{num("x")}}
	for _, x := range []struct{ got, want api.Json }{
		{jtext.List(odd, odd), lst(odd, odd)}, {jtext.Object([]string{"a", "a", "\xff"}, odd), obj([]string{"a", "a", "\xff"}, odd)}, {jtext.Object([]string{"a"}), obj([]string{"a"})}, {jtext.Object(nil, yes), obj(nil, yes)},
	} {
		if !equal(x.got, x.want) {
			t.Errorf("%v, not %v", x.got, x.want)
		}
	}
	deep := jtext.List(nested(60000, yes))
	for deep.Kind == api.JsonList {
		deep = deep.Items[0]
	}
	if !equal(deep, yes) {
		t.Error("List of what is nested deep")
	}
}
