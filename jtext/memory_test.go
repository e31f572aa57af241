package jtext_test

import (
	"cmp"
	"math/rand"
	"slices"
	"strings"
	"testing"
	"unsafe"

	"wicket/api"
	"wicket/jtext"
)

// span is a piece of memory, from low up to high.
type span struct{ low, high uintptr }

// memory is all that v lies on: texts, lists, and the lists' spare room.
func memory(v api.Json) []span {
	l := []span{textSpan(v.Text)}
	if cap(v.Names) > 0 {
		low := uintptr(unsafe.Pointer(unsafe.SliceData(v.Names)))
		l = append(l, span{low, low + uintptr(cap(v.Names))*unsafe.Sizeof("")})
	}
	if cap(v.Items) > 0 {
		low := uintptr(unsafe.Pointer(unsafe.SliceData(v.Items)))
		l = append(l, span{low, low + uintptr(cap(v.Items))*unsafe.Sizeof(v)})
	}
	for _, name := range v.Names {
		l = append(l, textSpan(name))
	}
	for _, item := range v.Items {
		l = append(l, memory(item)...)
	}
	return l
}

func textSpan(s string) span {
	low := uintptr(unsafe.Pointer(unsafe.StringData(s)))
	return span{low, low + uintptr(len(s))}
}

// apart: do no two of the spans share a byte?
func apart(groups ...[]span) bool {
	all := slices.Concat(groups...)
	all = slices.DeleteFunc(all, func(s span) bool { return s.low == s.high })
	slices.SortFunc(all, func(a, b span) int { return cmp.Compare(a.low, b.low) })
	for i := 1; i < len(all); i++ {
		if all[i].low < all[i-1].high {
			return false
		}
	}
	return true
}

// roomy is a copy of v whose lists have spare room with something in it, and whose texts are its own.
func roomy(v api.Json) api.Json {
	c := api.Json{Kind: v.Kind, Text: strings.Clone(v.Text)}
	for _, name := range v.Names {
		c.Names = append(c.Names, strings.Clone(name))
	}
	for _, item := range v.Items {
		c.Items = append(c.Items, roomy(item))
	}
	c.Names = append(c.Names, "spare", "names")[:len(v.Names)]
	c.Items = append(c.Items, txt("spare"), lst(txt("room")))[:len(v.Items)]
	return c
}

// asItIs tells all of v, the spare room too.
func asItIs(v api.Json) string {
	s := "(" + string(rune('5'+v.Kind)) + v.Text + "|" + strings.Join(v.Names[:cap(v.Names)], ",") + "|" + string(rune('0'+len(v.Names))) + string(rune('0'+len(v.Items)))
	for _, item := range v.Items[:cap(v.Items)] {
		s += asItIs(item)
	}
	return s + ")"
}

func sample() api.Json {
	return roomy(obj([]string{"beta", "alpha", "beta two"}, lst(num("-12.5"), txt("text"), empty), obj([]string{"z", "y"}, txt("name"), lst(lst(yes), no, null)), txt("last")))
}

// Rule 3: arguments are not changed, their spare room neither.
func TestArgumentsAreNotChanged(t *testing.T) {
	r := rand.New(rand.NewSource(61))
	for i := range 2000 {
		v := drawnValue(r, 3)
		if i%3 == 0 {
			v = spoilt(r, v)
		}
		v, w := roomy(v), roomy(shuffled(r, v))
		was, wasToo := asItIs(v), asItIs(w)
		jtext.Print(v)
		jtext.Canon(v)
		jtext.Same(v, w)
		jtext.Get(v, "a")
		jtext.Int(v)
		jtext.Uint(v)
		jtext.List(v.Items...)
		jtext.Object(v.Names, v.Items...)
		if asItIs(v) != was || asItIs(w) != wasToo {
			t.Fatalf("changed: %s to %s", was, asItIs(v))
		}
	}
}

// Rules 3 and 4: what spare room an argument has is not to be seen in an answer.
func TestSpareRoomIsNotSeen(t *testing.T) {
	r := rand.New(rand.NewSource(62))
	for i := range 2000 {
		v := drawnValue(r, 3)
		if i%3 == 0 {
			v = spoilt(r, v)
		}
		w := roomy(v)
		s, e := jtext.Print(v)
		spare, f := jtext.Print(w)
		if s != spare || e != f || jtext.Same(v, w) != jtext.Same(v, v) {
			t.Fatalf("spare room is seen: %s %d, %s %d", s, e, spare, f)
		}
		if _, there := jtext.Get(w, "spare"); there || !equal(jtext.List(w.Items...), lst(v.Items...)) || !equal(jtext.Object(w.Names, w.Items...), obj(v.Names, v.Items...)) {
			t.Fatal("spare room is seen")
		}
	}
}

// Rule 3: an answer is new memory: it shares none with an argument, with another answer, or within itself.
func TestAnswersAreNewMemory(t *testing.T) {
	v := sample()
	once, _ := jtext.Get(v, "alpha")
	twice, _ := jtext.Get(v, "alpha")
	if !equal(once, v.Items[1]) || !apart(memory(v), memory(once), memory(twice)) {
		t.Error("what Get answers shares memory")
	}
	item := v.Items[1]
	l, again := jtext.List(item, item, v), jtext.List(item, item, v)
	if !equal(l, lst(item, item, v)) || !apart(memory(v), memory(l), memory(again)) {
		t.Error("what List answers shares memory")
	}
	o, again := jtext.Object(v.Names, item, item, v), jtext.Object(v.Names, item, item, v)
	if !equal(o, obj(v.Names, item, item, v)) || !apart(memory(v), memory(o), memory(again)) {
		t.Error("what Object answers shares memory")
	}
	s := strings.Clone("some text")
	if !apart([]span{textSpan(s)}, memory(jtext.Text(s)), memory(jtext.Text(s))) {
		t.Error("what Text answers shares memory")
	}
	if !apart(memory(jtext.Number(1<<63)), memory(jtext.Number(1<<63))) {
		t.Error("what Number answers shares memory")
	}
	text := strings.Clone(`{"alpha":[12345,"beta",{"gamma":"delta"},"beta"],"epsilon":-1.5e5,"beta":[[],{}]}`)
	if !apart([]span{textSpan(text)}, memory(parsed(t, text)), memory(parsed(t, text))) {
		t.Error("what Parse answers shares memory")
	}
	literal := roomy(num("12345678"))
	print, _ := jtext.Print(literal)
	canon, _ := jtext.Canon(literal)
	if !apart(memory(literal), []span{textSpan(print), textSpan(canon)}) {
		t.Error("what is written shares memory")
	}
}

// Rule 3: what is done to an answer is not seen in the argument or in the next answer.
func TestAnswersAreNobodyElses(t *testing.T) {
	v := sample()
	was := asItIs(v)
	for _, answer := range []func() api.Json{
		func() api.Json { return jtext.List(v.Items...) },
		func() api.Json { return jtext.Object(v.Names, v.Items...) },
		func() api.Json { g, _ := jtext.Get(v, "alpha"); return g },
		func() api.Json { p, _, _ := jtext.Parse(`{"a":[1,2,{"b":"c"}],"d":[]}`); return p },
	} {
		want := twin(answer())
		scribble(answer())
		if asItIs(v) != was || !equal(answer(), want) {
			t.Errorf("%v is seen elsewhere", want)
		}
	}
}

func scribble(v api.Json) {
	for i := range v.Names[:cap(v.Names)] {
		v.Names[:cap(v.Names)][i] = "scribbled"
	}
	for i, item := range v.Items[:cap(v.Items)] {
		scribble(item)
		v.Items[:cap(v.Items)][i] = txt("scribbled")
	}
}

// Rule 3: nil and an empty list are the same where they are handed in.
func TestNilIsEmpty(t *testing.T) {
	for kind := range 7 {
		a, b := api.Json{Kind: kind}, api.Json{Kind: kind, Names: []string{}, Items: []api.Json{}}
		s, e := jtext.Print(a)
		print, f := jtext.Print(b)
		if s != print || e != f || jtext.Same(a, b) != jtext.Same(a, a) {
			t.Errorf("the kind %d tells nil from empty", kind)
		}
	}
	if !equal(jtext.List([]api.Json{}...), jtext.List()) || !equal(jtext.Object([]string{}, []api.Json{}...), jtext.Object(nil)) {
		t.Error("List or Object tells nil from empty")
	}
}

// Rule 4: the same arguments have the same answers, whatever was asked between.
func TestAnswersHangOnArgumentsAlone(t *testing.T) {
	r := rand.New(rand.NewSource(63))
	for range 2000 {
		text, w := drawnText(r), spoilt(r, drawnValue(r, 3))
		v, e, at := jtext.Parse(text)
		s, fault := jtext.Canon(w)
		jtext.Parse(drawnText(r))
		jtext.Canon(drawnValue(r, 3))
		again, f, place := jtext.Parse(text)
		other, faultToo := jtext.Canon(w)
		if !equal(v, again) || e != f || at != place || s != other || fault != faultToo {
			t.Fatalf("two answers of %q or %v", text, w)
		}
	}
}
