package jtext_test

import (
	"math/rand"
	"strings"
	"testing"

	"wicket/api"
	"wicket/jtext"
)

// P4.3 and P4.4, the chapter's examples 5 and 6.
func TestPrintExamples(t *testing.T) {
	isPrinted(t, txt("é\n\x7f"), `"\u00e9\n\u007f"`)
	isNotPrinted(t, num("1."), api.ErrJson)
	isNotPrinted(t, api.Json{Kind: api.JsonNull, Text: "x"}, api.ErrJson)
	isNotPrinted(t, obj([]string{"a", "a"}, num("1"), num("1")), api.ErrName)
	if s, e := jtext.Canon(parsed(t, `{"b":1,"a":2}`)); s != `{"a":2,"b":1}` || e != api.OK {
		t.Errorf("Canon: %s %d", s, e)
	}
}

// P4.3: values of each kind, without blanks.
func TestPrintValues(t *testing.T) {
	for _, x := range []struct {
		v    api.Json
		want string
	}{
		{null, "null"}, {no, "false"}, {yes, "true"}, {num("-1.50E+07"), "-1.50E+07"}, {txt(""), `""`}, {lst(), "[]"}, {empty, "{}"},
		{lst(null), "[null]"}, {lst(num("1"), txt("a"), lst(), empty), `[1,"a",[],{}]`}, {obj([]string{""}, txt("")), `{"":""}`},
		{obj([]string{"b", "a"}, lst(yes), obj([]string{"b"}, no)), `{"b":[true],"a":{"b":false}}`},
		{txt(" !#/<>&'~\u2028"), `" !#/<>&'~\u2028"`}, {txt("\x00\x01\x07\x08\x09\x0a\x0b\x0c\x0d\x0e\x1f"), `"\u0000\u0001\u0007\b\t\n\u000b\f\r\u000e\u001f"`},
		{txt("\"\\"), `"\"\\"`}, {txt("\u0080\u07ff\u0800\ud7ff\ue000\ufffd\uffff"), `"\u0080\u07ff\u0800\ud7ff\ue000\ufffd\uffff"`},
		{txt("\U00010000\U000103ff\U00010400\U0010ffff"), `"\ud800\udc00\ud800\udfff\ud801\udc00\udbff\udfff"`},
		{obj([]string{"é\n", "\U0001f600"}, null, null), `{"\u00e9\n":null,"\ud83d\ude00":null}`},
	} {
		isPrinted(t, x.v, x.want)
	}
}

// P4.3: a text is written in the bytes 32 to 126 alone, in letters that are small.
func TestPrintPlainBytes(t *testing.T) {
	r := rand.New(rand.NewSource(43))
	for range 3000 {
		v := drawnValue(r, 3)
		s := printed(t, v)
		for i := range len(s) {
			if s[i] < 32 || s[i] > 126 {
				t.Fatalf("Print(%v): %q", v, s)
			}
		}
		if want, _ := slowPrint(v, api.MaxJson); s != want {
			t.Fatalf("Print(%v): %s, not %s", v, s, want)
		}
	}
}

// P4.3: what is no value, by itself and within others.
func TestPrintNoValue(t *testing.T) {
	one := num("1")
	wrong := []api.Json{
		{Kind: -1}, {Kind: 7}, {Kind: 9}, {Kind: -1 << 63}, {Kind: 1<<63 - 1},
		{Kind: api.JsonNull, Names: []string{""}}, {Kind: api.JsonNull, Items: []api.Json{null}}, {Kind: api.JsonTrue, Text: "true"}, {Kind: api.JsonFalse, Items: []api.Json{null}}, {Kind: api.JsonFalse, Text: "x"},
		{Kind: api.JsonTrue, Names: []string{"a"}}, {Kind: api.JsonNumber, Text: "1", Names: []string{"a"}}, {Kind: api.JsonNumber, Text: "1", Items: []api.Json{null}},
		{Kind: api.JsonText, Text: "1", Names: []string{"a"}}, {Kind: api.JsonText, Text: "1", Items: []api.Json{null}}, {Kind: api.JsonText, Names: []string{"a"}, Items: []api.Json{null}},
		{Kind: api.JsonList, Text: "x"}, {Kind: api.JsonList, Names: []string{"a"}}, {Kind: api.JsonList, Names: []string{"a"}, Items: []api.Json{null}}, {Kind: api.JsonObject, Text: "x"},
		obj([]string{"a"}), obj(nil, one), obj([]string{"a", "b"}, one), obj([]string{"a"}, one, one),
		obj([]string{"\xff"}, one), obj([]string{"a", "\xed\xa0\x80"}, one, one), txt("\xff"), txt("a\xc3"), txt("\xed\xa0\x80"), txt("\xc0\x80"), txt("\xf4\x90\x80\x80"), txt("é\x80"),
	}
	for _, s := range []string{"", "-", "+1", "01", "-01", "00", "1.", ".5", "1e", "1e+", "1.e5", "1 ", " 1", "1x", "0x1", "1e5.0", "1,", "--1", "1\x00", "NaN", "null", "١"} {
		wrong = append(wrong, num(s))
	}
	for _, v := range wrong {
		isNotPrinted(t, v, api.ErrJson)
		isNotPrinted(t, lst(one, v), api.ErrJson)
		isNotPrinted(t, obj([]string{"a"}, v), api.ErrJson)
		isNotPrinted(t, lst(obj([]string{"a", "b"}, one, lst(v))), api.ErrJson)
	}
	isPrinted(t, lst(api.Json{Names: []string{}, Items: []api.Json{}}, api.Json{Kind: api.JsonList, Names: []string{}}), "[null,[]]")
}

// P4.3: of two faults the one told is the first that is met from the left; at a value depth goes ahead, and what an object has wrong itself goes ahead of its members.
func TestPrintFirstFault(t *testing.T) {
	bad, twice, deep := api.Json{Kind: 9}, obj([]string{"a", "a"}, null, null), nested(api.MaxDepth+1, null)
	for _, x := range []struct {
		v     api.Json
		fault api.Errno
	}{
		{lst(bad, twice, deep), api.ErrJson}, {lst(twice, bad, deep), api.ErrName}, {lst(deep, bad, twice), api.ErrDepth},
		{obj([]string{"a", "a"}, bad, null), api.ErrJson}, {obj([]string{"a", "a"}, null, bad), api.ErrName}, {obj([]string{"a", "a"}, deep, bad), api.ErrDepth},
		{obj([]string{"a", "b", "a"}, null, bad, null), api.ErrJson}, {obj([]string{"a", "a", "\xff"}, null, null, null), api.ErrName}, {obj([]string{"\xff", "\xff"}, null, null), api.ErrJson},
		{obj([]string{"\xff"}, deep), api.ErrJson}, {obj([]string{"a", "a", "b"}, null, null), api.ErrJson}, {obj([]string{"a", "a"}, deep), api.ErrJson},
		{api.Json{Kind: api.JsonList, Text: "x", Items: []api.Json{deep}}, api.ErrJson},
		{nested(api.MaxDepth, api.Json{Kind: api.JsonList, Text: "x"}), api.ErrDepth}, {nested(api.MaxDepth, obj([]string{"a"})), api.ErrDepth}, {nested(api.MaxDepth, bad), api.ErrJson}, {nested(api.MaxDepth, num("x")), api.ErrJson},
		{obj([]string{"b", "a", "a"}, bad, null, null), api.ErrJson}, {obj([]string{"b", "b", "a"}, null, null, bad), api.ErrName},
	} {
		isNotPrinted(t, x.v, x.fault)
	}
}

// P4.3: how deep values may stand.
func TestPrintDepth(t *testing.T) {
	open, closing := strings.Repeat("[", api.MaxDepth), strings.Repeat("]", api.MaxDepth)
	isPrinted(t, nested(api.MaxDepth, num("1")), open+"1"+closing)
	isPrinted(t, nested(api.MaxDepth-1, lst()), open+closing)
	isPrinted(t, nested(api.MaxDepth-1, empty), open[1:]+"{}"+closing[1:])
	isNotPrinted(t, nested(api.MaxDepth, lst()), api.ErrDepth)
	isNotPrinted(t, nested(api.MaxDepth, empty), api.ErrDepth)
	isNotPrinted(t, nested(60000, null), api.ErrDepth)
}

// P4.3: MaxJson bytes are written, one more is not, whatever the last byte belongs to.
func TestPrintLong(t *testing.T) {
	fill := func(n int) string { return strings.Repeat("a", n) }
	isPrinted(t, txt(fill(api.MaxJson-2)), `"`+fill(api.MaxJson-2)+`"`)
	isNotPrinted(t, txt(fill(api.MaxJson-1)), api.ErrLong)
	isNotPrinted(t, txt(fill(api.MaxJson)), api.ErrLong)
	isNotPrinted(t, txt(fill(1<<22)), api.ErrLong)
	isPrinted(t, txt(fill(api.MaxJson-4)+"\n"), `"`+fill(api.MaxJson-4)+`\n"`)
	isNotPrinted(t, txt(fill(api.MaxJson-3)+"\n"), api.ErrLong)
	isPrinted(t, num(strings.Repeat("1", api.MaxJson)), strings.Repeat("1", api.MaxJson))
	isNotPrinted(t, num(strings.Repeat("1", api.MaxJson+1)), api.ErrLong)
	isNotPrinted(t, num(strings.Repeat("1", api.MaxJson+1)+"x"), api.ErrJson)
	isNotPrinted(t, txt(fill(api.MaxJson)+"\xff"), api.ErrJson)
	isNotPrinted(t, lst(make([]api.Json, 1<<20)...), api.ErrLong)
	isNotPrinted(t, obj(make([]string, 1<<20), make([]api.Json, 1<<20)...), api.ErrName)
}

// P4.3, held against the slow way, with the end of the room at each byte of what is written.
func TestPrintAtTheEndOfTheRoom(t *testing.T) {
	r := rand.New(rand.NewSource(44))
	counts := map[api.Errno]int{}
	small := []api.Json{
		lst(null, num("12")), lst(txt("é"), api.Json{Kind: 9}), lst(api.Json{Kind: 9}), obj([]string{"a", "b"}, lst(), empty), obj([]string{"a", "a"}, null, null), obj([]string{"a", "\xff"}, null, null),
		txt("\n\U0001f600"), lst(lst(nested(api.MaxDepth, null))), lst(yes, num("1."), no), lst(empty, obj([]string{"x"})),
	}
	for range 30 {
		small = append(small, spoilt(r, drawnValue(r, 2)))
	}
	for _, v := range small {
		size := 0
		for _, s := range steps(lst(null, v), 0) {
			if s.fault == api.OK {
				size++
			}
		}
		for behind := -2; behind <= size; behind++ {
			whole := lst(txt(strings.Repeat("a", api.MaxJson-4-behind)), v)
			want, errno := slowPrint(whole, api.MaxJson)
			if s, e := jtext.Print(whole); s != want || e != errno {
				t.Fatalf("Print of %v, %d bytes behind: %d bytes, %d, not %d", v, behind, len(s), e, errno)
			}
			if _, e := jtext.Canon(whole); e != errno {
				t.Fatalf("Canon of %v, %d bytes behind: %d, not %d", v, behind, e, errno)
			}
			counts[errno]++
		}
	}
	if counts[api.OK] < 50 || counts[api.ErrLong] < 50 || counts[api.ErrJson] < 50 || counts[api.ErrName] < 3 {
		t.Errorf("too few of a kind were drawn: %v", counts)
	}
}

// P4.3 and P4.4, held against the slow way.
func TestPrintAgainstTheSlowWay(t *testing.T) {
	r := rand.New(rand.NewSource(45))
	counts := map[api.Errno]int{}
	for range 30000 {
		v := drawnValue(r, 3)
		for range r.Intn(3) {
			v = spoilt(r, v)
		}
		want, errno := slowPrint(v, api.MaxJson)
		if s, e := jtext.Print(v); s != want || e != errno {
			t.Fatalf("Print(%v): %s %d, not %s %d", v, s, e, want, errno)
		}
		want, errno = slowCanon(v, api.MaxJson)
		if s, e := jtext.Canon(v); s != want || e != errno {
			t.Fatalf("Canon(%v): %s %d, not %s %d", v, s, e, want, errno)
		}
		counts[errno]++
	}
	if counts[api.OK] < 5000 || counts[api.ErrJson] < 5000 || counts[api.ErrName] < 200 || counts[api.ErrDepth] < 200 {
		t.Errorf("too few of a kind were drawn: %v", counts)
	}
}

// P4.4: names go by their bytes, in objects within others too; what is alike has one text.
func TestCanon(t *testing.T) {
	for _, x := range []struct{ text, want string }{
		{"{}", "{}"}, {"[]", "[]"}, {" [ 2 , 1 ] ", "[2,1]"}, {`{"a":1,"b":2}`, `{"a":1,"b":2}`},
		{`{"b":{"d":1,"c":2},"a":[{"f":3,"e":4}]}`, `{"a":[{"e":4,"f":3}],"b":{"c":2,"d":1}}`},
		{`{"aa":1,"a":2,"":3,"A":4,"ab":5,"b":6}`, `{"":3,"A":4,"a":2,"aa":1,"ab":5,"b":6}`},
		{`{"\uffff":1,"\ud800\udc00":2,"\u0080":3,"~":4,"\u007f":5}`, `{"~":4,"\u007f":5,"\u0080":3,"\uffff":1,"\ud800\udc00":2}`},
		{`{"\"":1,"!":2,"#":3,"\\":4,"]":5,"[":6}`, `{"!":2,"\"":1,"#":3,"[":6,"\\":4,"]":5}`},
	} {
		if s, e := jtext.Canon(parsed(t, x.text)); s != x.want || e != api.OK {
			t.Errorf("Canon of %s: %s %d, not %s", x.text, s, e, x.want)
		}
	}
	r := rand.New(rand.NewSource(46))
	for range 3000 {
		v := drawnValue(r, 3)
		a, e := jtext.Canon(v)
		b, f := jtext.Canon(shuffled(r, v))
		if a != b || e != api.OK || f != api.OK {
			t.Fatalf("Canon(%v): %s %d, shuffled %s %d", v, a, e, b, f)
		}
	}
}

// P4.4: Print's error, for the members as they stand, not as they would be sorted.
func TestCanonTellsPrintsError(t *testing.T) {
	bad := api.Json{Kind: 9}
	long := txt(strings.Repeat("a", api.MaxJson))
	isNotPrinted(t, obj([]string{"b", "a"}, long, bad), api.ErrLong)
	isNotPrinted(t, obj([]string{"a", "b"}, long, bad), api.ErrLong)
	isNotPrinted(t, obj([]string{"b", "a"}, bad, long), api.ErrJson)
	isNotPrinted(t, obj([]string{"c", "c", "a"}, null, null, bad), api.ErrName)
	isNotPrinted(t, obj([]string{"c", "a"}, lst(nested(api.MaxDepth, null)), bad), api.ErrDepth)
}
