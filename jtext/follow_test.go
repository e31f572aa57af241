package jtext_test

import (
	"math/rand"
	"strings"
	"testing"

	"wicket/api"
	"wicket/jtext"
)

// P4.8: Parse(Print(v)) is v.
func TestPrintIsReadBack(t *testing.T) {
	r := rand.New(rand.NewSource(51))
	for range 10000 {
		v := drawnValue(r, 4)
		isParsed(t, printed(t, v), v)
	}
	for _, v := range []api.Json{
		nested(api.MaxDepth, txt("é")), nested(api.MaxDepth-1, empty), txt(strings.Repeat("a", api.MaxJson-2)), num(strings.Repeat("9", api.MaxJson)),
		txt(strings.Repeat("\U0001f600", (api.MaxJson-2)/12)), lst(make([]api.Json, (api.MaxJson-1)/5)...),
	} {
		isParsed(t, printed(t, v), v)
	}
}

// P4.8: Print(Parse(text)) is read as the same value; what may be too long is its text, as every character may need six bytes.
func TestReadIsPrinted(t *testing.T) {
	r := rand.New(rand.NewSource(52))
	count := 0
	for range 20000 {
		v, e, _ := jtext.Parse(drawnText(r))
		if e != api.OK {
			continue
		}
		count++
		s := printed(t, v)
		isParsed(t, s, v)
		if again := printed(t, parsed(t, s)); again != s {
			t.Fatalf("%s is printed %s", s, again)
		}
	}
	if count < 5000 {
		t.Errorf("only %d texts were read", count)
	}
	wide := parsed(t, `"`+strings.Repeat("é", 4000)+`"`)
	isNotPrinted(t, wide, api.ErrLong)
}

// P4.8: values that are not alike have unlike texts; Same holds just if the Canons are alike.
func TestOneForm(t *testing.T) {
	r := rand.New(rand.NewSource(53))
	prints, canons := map[string]api.Json{}, map[string]api.Json{}
	var values []api.Json
	for i := range 4000 {
		v := drawnValue(r, 2)
		if i%2 == 1 {
			v = shuffled(r, values[r.Intn(len(values))])
		}
		values = append(values, v)
		s := printed(t, v)
		if other, there := prints[s]; there && !equal(v, other) {
			t.Fatalf("%v and %v have one text", v, other)
		}
		prints[s] = v
		c, _ := jtext.Canon(v)
		if other, there := canons[c]; there && !jtext.Same(v, other) {
			t.Fatalf("%v and %v have one Canon", v, other)
		}
		canons[c] = v
	}
	for range 20000 {
		a, b := values[r.Intn(len(values))], values[r.Intn(len(values))]
		one, _ := jtext.Canon(a)
		two, _ := jtext.Canon(b)
		if jtext.Same(a, b) != (one == two) {
			t.Fatalf("Same(%v, %v) is %v", a, b, jtext.Same(a, b))
		}
	}
}

// P4.9: every beginning of a text that is read is read, or ends too soon where it is cut; so nothing is told of it ahead of its fault.
func TestBeginnings(t *testing.T) {
	r := rand.New(rand.NewSource(54))
	for range 2000 {
		text := loose(r, drawnValue(r, 3))
		for n := range len(text) {
			isFirst(t, text, n)
		}
	}
}
