package jtext_test

import (
	"math/rand"
	"slices"
	"strings"
	"testing"

	"wicket/api"
	"wicket/jtext"
)

var (
	null  = api.Json{}
	no    = api.Json{Kind: api.JsonFalse}
	yes   = api.Json{Kind: api.JsonTrue}
	empty = api.Json{Kind: api.JsonObject}
)

func num(literal string) api.Json { return api.Json{Kind: api.JsonNumber, Text: literal} }

func txt(text string) api.Json { return api.Json{Kind: api.JsonText, Text: text} }

func lst(items ...api.Json) api.Json { return api.Json{Kind: api.JsonList, Items: items} }

func obj(names []string, items ...api.Json) api.Json {
	return api.Json{Kind: api.JsonObject, Names: names, Items: items}
}

// equal: are two Jsons the same field by field? nil is an empty list.
func equal(a, b api.Json) bool {
	return a.Kind == b.Kind && a.Text == b.Text && slices.Equal(a.Names, b.Names) && slices.EqualFunc(a.Items, b.Items, equal)
}

// twin is a copy of v to its leaves.
func twin(v api.Json) api.Json {
	c := v
	c.Names = slices.Clone(v.Names)
	c.Items = slices.Clone(v.Items)
	for i := range c.Items {
		c.Items[i] = twin(c.Items[i])
	}
	return c
}

// nested is a value within count lists.
func nested(count int, v api.Json) api.Json {
	for range count {
		v = lst(v)
	}
	return v
}

func parsed(t *testing.T, text string) api.Json {
	t.Helper()
	v, e, at := jtext.Parse(text)
	if e != api.OK || at != 0 {
		t.Fatalf("Parse(%.60q): %d %d", text, e, at)
	}
	return v
}

func printed(t *testing.T, v api.Json) string {
	t.Helper()
	s, e := jtext.Print(v)
	if e != api.OK {
		t.Fatalf("Print(%.60v): %d", v, e)
	}
	return s
}

func isParsed(t *testing.T, text string, want api.Json) {
	t.Helper()
	if v := parsed(t, text); !equal(v, want) {
		t.Errorf("Parse(%.60q): %.60v, not %.60v", text, v, want)
	}
}

// isRefused: text has no value, and that fault at that place.
func isRefused(t *testing.T, text string, fault api.Errno, place int) {
	t.Helper()
	if v, e, at := jtext.Parse(text); !isZero(v) || e != fault || at != place {
		t.Errorf("Parse(%.60q): %.60v %d %d, not %d %d", text, v, e, at, fault, place)
	}
}

func isZero(v api.Json) bool {
	return v.Kind == 0 && v.Text == "" && v.Names == nil && v.Items == nil
}

func isPrinted(t *testing.T, v api.Json, want string) {
	t.Helper()
	if s := printed(t, v); s != want {
		t.Errorf("Print(%.60v): %.60s, not %.60s", v, s, want)
	}
}

// isNotPrinted: neither Print nor Canon writes v; both tell that fault.
func isNotPrinted(t *testing.T, v api.Json, fault api.Errno) {
	t.Helper()
	if s, e := jtext.Print(v); s != "" || e != fault {
		t.Errorf("Print(%.60v): %.60q %d, not %d", v, s, e, fault)
	}
	if s, e := jtext.Canon(v); s != "" || e != fault {
		t.Errorf("Canon(%.60v): %.60q %d, not %d", v, s, e, fault)
	}
}

// drawnOf is a text of at most n bytes, each one of alphabet's.
func drawnOf(r *rand.Rand, alphabet string, n int) string {
	p := make([]byte, r.Intn(n+1))
	for i := range p {
		p[i] = alphabet[r.Intn(len(alphabet))]
	}
	return string(p)
}

// drawnClean is a text of at most n characters, of all lengths in UTF-8, those at the borders more often.
func drawnClean(r *rand.Rand, n int) string {
	borders := []rune{0, 8, 9, 10, 11, 12, 13, 31, 32, '"', '/', '\\', 126, 127, 128, 0x7ff, 0x800, 0xd7ff, 0xe000, 0xfffd, 0xffff, 0x10000, 0x103ff, 0x10400, 0x10ffff}
	var out strings.Builder
	for range r.Intn(n + 1) {
		switch r.Intn(4) {
		case 0:
			out.WriteRune(borders[r.Intn(len(borders))])
		case 1:
			out.WriteRune(rune(0xe000 + r.Intn(0x110000-0xe000)))
		default:
			out.WriteRune(rune('a' + r.Intn(4)))
		}
	}
	return out.String()
}

func drawnLiteral(r *rand.Rand) string {
	s := []string{"", "-"}[r.Intn(2)] + []string{"0", "7", "10", "1234567890"}[r.Intn(4)]
	if r.Intn(3) == 0 {
		s += "." + []string{"0", "5", "250"}[r.Intn(3)]
	}
	if r.Intn(3) == 0 {
		s += []string{"e", "E"}[r.Intn(2)] + []string{"", "+", "-"}[r.Intn(3)] + []string{"0", "07", "12"}[r.Intn(3)]
	}
	return s
}

// drawnValue is a value that goes at most deep levels deeper.
func drawnValue(r *rand.Rand, deep int) api.Json {
	kind := r.Intn(7)
	if deep == 0 {
		kind = r.Intn(5)
	}
	v := api.Json{Kind: kind}
	switch kind {
	case api.JsonNumber:
		v.Text = drawnLiteral(r)
	case api.JsonText:
		v.Text = drawnClean(r, 5)
	case api.JsonList:
		for range r.Intn(4) {
			v.Items = append(v.Items, drawnValue(r, deep-1))
		}
	case api.JsonObject:
		for range r.Intn(5) {
			if name := drawnClean(r, 2); !slices.Contains(v.Names, name) {
				v.Names = append(v.Names, name)
				v.Items = append(v.Items, drawnValue(r, deep-1))
			}
		}
	}
	return v
}

// shuffled says the same as v, with each object's members in an order that is drawn.
func shuffled(r *rand.Rand, v api.Json) api.Json {
	v = twin(v)
	for i := range v.Items {
		v.Items[i] = shuffled(r, v.Items[i])
	}
	if v.Kind == api.JsonObject && len(v.Names) == len(v.Items) {
		r.Shuffle(len(v.Items), func(i, j int) {
			v.Names[i], v.Names[j] = v.Names[j], v.Names[i]
			v.Items[i], v.Items[j] = v.Items[j], v.Items[i]
		})
	}
	return v
}

// spoilt is v with one of its parts changed, to another value or to none.
func spoilt(r *rand.Rand, v api.Json) api.Json {
	v = twin(v)
	part := &v
	for len(part.Items) > 0 && r.Intn(4) > 0 {
		part = &part.Items[r.Intn(len(part.Items))]
	}
	switch r.Intn(8) {
	case 0:
		part.Kind = r.Intn(12) - 2
	case 1:
		part.Text += []string{"x", "1", ".", "\xff", "\xed\xa0\x80"}[r.Intn(5)]
	case 2:
		part.Names = append(part.Names, drawnClean(r, 1))
	case 3:
		part.Items = append(part.Items, null)
	case 4:
		part.Names, part.Items = append(part.Names, drawnClean(r, 1)), append(part.Items, no)
	case 5:
		*part = obj([]string{"a", drawnClean(r, 1), "a"}, null, *part, yes)
	case 6:
		if len(part.Names) > 0 {
			part.Names[r.Intn(len(part.Names))] += []string{"\xc3", "\xff", "a"}[r.Intn(3)]
		}
	case 7:
		*part = nested(r.Intn(2*api.MaxDepth), *part)
	}
	return v
}
