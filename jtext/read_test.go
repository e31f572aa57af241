package jtext_test

import (
	"encoding/json"
	"fmt"
	"math/rand"
	"strings"
	"testing"

	"wicket/api"
	"wicket/jtext"
)

// P4.1, the chapter's examples 1, 2 and 4.
func TestParseExamples(t *testing.T) {
	const text = " {\"a\" : [1, -2.50e+3, true]} "
	isParsed(t, text, obj([]string{"a"}, lst(num("1"), num("-2.50e+3"), yes)))
	isPrinted(t, parsed(t, text), `{"a":[1,-2.50e+3,true]}`)
	isRefused(t, "", api.ErrShort, 0)
	isRefused(t, "nul", api.ErrShort, 3)
	isRefused(t, "nuul", api.ErrToken, 2)
	isRefused(t, "01", api.ErrTail, 1)
	isRefused(t, "[01]", api.ErrToken, 2)
	isRefused(t, "-", api.ErrShort, 1)
	isRefused(t, "1.x", api.ErrNumber, 2)
	isRefused(t, "[1,]", api.ErrToken, 3)
	isRefused(t, "{,}", api.ErrToken, 1)
}

// P4.1: values of each kind, with and without blanks.
func TestParseValues(t *testing.T) {
	const blanks = " \t\n\r \r\n\t"
	for _, x := range []struct {
		text string
		want api.Json
	}{
		{"null", null}, {"true", yes}, {"false", no}, {"0", num("0")}, {`""`, txt("")}, {"[]", lst()}, {"{}", empty},
		{"[[],{}]", lst(lst(), empty)}, {"[ ]", lst()}, {"{\n}", empty}, {"[null,true,false]", lst(null, yes, no)},
		{`{"":""}`, obj([]string{""}, txt(""))}, {`{"b":1,"a":2}`, obj([]string{"b", "a"}, num("1"), num("2"))},
		{`{"a":{"a":{"a":null}}}`, obj([]string{"a"}, obj([]string{"a"}, obj([]string{"a"}, null)))},
		{`[{"a":1},{"a":1}]`, lst(obj([]string{"a"}, num("1")), obj([]string{"a"}, num("1")))},
		{"[ 1 , 2 ]", lst(num("1"), num("2"))}, {`{ "a" : 1 , "A" : 2 }`, obj([]string{"a", "A"}, num("1"), num("2"))},
	} {
		isParsed(t, x.text, x.want)
		isParsed(t, blanks+x.text, x.want)
		isParsed(t, x.text+blanks, x.want)
	}
}

// P4.1.2: a number is taken as it stands.
func TestParseNumbers(t *testing.T) {
	for _, s := range []string{
		"0", "-0", "9", "-9", "10", "1234567890123456789012345678901234567890", "0.0", "-0.5", "1.50", "10.01",
		"0e0", "1E5", "1e+5", "1E-5", "1e00", "0.0e-00", "-12.340E+0100", "1e999999",
	} {
		isParsed(t, s, num(s))
		isParsed(t, "["+s+" ,"+s+"]", lst(num(s), num(s)))
		isParsed(t, `{"a":`+s+"}", obj([]string{"a"}, num(s)))
	}
}

// P4.1.2: the longest beginning of a literal, and what stands behind it.
func TestParseNumberFaults(t *testing.T) {
	for _, x := range []struct {
		text  string
		fault api.Errno
		place int
	}{
		{"-", api.ErrShort, 1}, {"1.", api.ErrShort, 2}, {"1e", api.ErrShort, 2}, {"1e+", api.ErrShort, 3}, {"1.5E-", api.ErrShort, 5}, {"[-", api.ErrShort, 2},
		{"-x", api.ErrNumber, 1}, {"--1", api.ErrNumber, 1}, {"- 1", api.ErrNumber, 1}, {"-.5", api.ErrNumber, 1}, {"-e5", api.ErrNumber, 1}, {"-\"", api.ErrNumber, 1},
		{"1.e5", api.ErrNumber, 2}, {"1. ", api.ErrNumber, 2}, {"1..5", api.ErrNumber, 2}, {"1.-5", api.ErrNumber, 2}, {"1.]", api.ErrNumber, 2},
		{"1ee", api.ErrNumber, 2}, {"1e.5", api.ErrNumber, 2}, {"1e+-5", api.ErrNumber, 3}, {"1e 5", api.ErrNumber, 2}, {"1e+x", api.ErrNumber, 3}, {"[1.5e,2]", api.ErrNumber, 5},
		{"01", api.ErrTail, 1}, {"-01", api.ErrTail, 2}, {"00", api.ErrTail, 1}, {"1.5.5", api.ErrTail, 3}, {"1e5e", api.ErrTail, 3}, {"1e5.5", api.ErrTail, 3}, {"1-1", api.ErrTail, 1}, {"1x", api.ErrTail, 1},
		{"[00]", api.ErrToken, 2}, {"[1 2]", api.ErrToken, 3}, {"[0x1]", api.ErrToken, 2}, {"[1.5.5]", api.ErrToken, 4},
		{"+1", api.ErrToken, 0}, {".5", api.ErrToken, 0}, {"e5", api.ErrToken, 0}, {"[+1]", api.ErrToken, 1}, {"Infinity", api.ErrToken, 0}, {"NaN", api.ErrToken, 0},
	} {
		isRefused(t, x.text, x.fault, x.place)
	}
}

// P4.1.1 and 5: words, their beginnings, and what is none.
func TestParseWords(t *testing.T) {
	for _, word := range []string{"null", "true", "false"} {
		for n := 1; n < len(word); n++ {
			isRefused(t, word[:n], api.ErrShort, n)
			isRefused(t, " ["+word[:n], api.ErrShort, n+2)
			for _, wrong := range []string{" ", "x", "]", "\x00", "\xff", strings.ToUpper(word[n : n+1])} {
				isRefused(t, word[:n]+wrong, api.ErrToken, n)
				isRefused(t, word[:n]+wrong+word[n:], api.ErrToken, n)
			}
		}
		isRefused(t, word+"x", api.ErrTail, len(word))
		isRefused(t, word+word, api.ErrTail, len(word))
		isRefused(t, strings.ToUpper(word), api.ErrToken, 0)
	}
	for n := range 256 {
		c := string([]byte{byte(n)})
		if !strings.Contains("\t\n\r -0123456789\"[{ntf", c) {
			isRefused(t, c, api.ErrToken, 0)
			isRefused(t, c+"null", api.ErrToken, 0)
			isRefused(t, "  "+c, api.ErrToken, 2)
		}
		if !strings.Contains("\t\n\r ", c) {
			isRefused(t, "null"+c, api.ErrTail, 4)
			isRefused(t, " [] "+c+" ", api.ErrTail, 4)
		}
		if !strings.Contains("\t\n\r ]-0123456789\"[{ntf", c) {
			isRefused(t, "["+c, api.ErrToken, 1)
		}
		if !strings.Contains("\t\n\r ,]", c) {
			isRefused(t, "[[]"+c, api.ErrToken, 3)
		}
		if !strings.Contains("\t\n\r }\"", c) {
			isRefused(t, "{"+c, api.ErrToken, 1)
		}
		if !strings.Contains("\t\n\r :", c) {
			isRefused(t, `{"a"`+c, api.ErrToken, 4)
		}
		if !strings.Contains("\t\n\r ,}", c) {
			isRefused(t, `{"a":{}`+c, api.ErrToken, 7)
		}
		if !strings.Contains("\t\n\r \"", c) {
			isRefused(t, `{"a":{},`+c, api.ErrToken, 8)
		}
	}
}

// P4.1.4: where a list or an object is broken off or has a byte that may not stand there.
func TestParseBrackets(t *testing.T) {
	const whole = ` [ { "a" : [ 1 , 2 ] , "b" : { } } , [ ] ] `
	for n := range len(whole) - 1 {
		isRefused(t, whole[:n], api.ErrShort, n)
	}
	for _, x := range []struct {
		text  string
		fault api.Errno
		place int
	}{
		{" ", api.ErrShort, 1}, {"]", api.ErrToken, 0}, {"}", api.ErrToken, 0}, {"[}", api.ErrToken, 1}, {"{]", api.ErrToken, 1},
		{"[1}", api.ErrToken, 2}, {`{"a":1]`, api.ErrToken, 6}, {"[,]", api.ErrToken, 1}, {"[1,,2]", api.ErrToken, 3}, {"[1 ,\n]", api.ErrToken, 5},
		{`{"a"}`, api.ErrToken, 4}, {`{"a",1}`, api.ErrToken, 4}, {`{"a" 1}`, api.ErrToken, 5}, {`{"a":}`, api.ErrToken, 5}, {`{"a"::1}`, api.ErrToken, 5},
		{`{"a":1,}`, api.ErrToken, 7}, {`{"a":1 "b":2}`, api.ErrToken, 7}, {`{"a":1,,"b":2}`, api.ErrToken, 7}, {`{1:2}`, api.ErrToken, 1}, {`{a:2}`, api.ErrToken, 1}, {`{"a":1:2}`, api.ErrToken, 6},
		{"[]]", api.ErrTail, 2}, {"{}{}", api.ErrTail, 2}, {"[] ,", api.ErrTail, 3}, {"1 2", api.ErrTail, 2}, {`"a" "b"`, api.ErrTail, 4}, {`"a":1`, api.ErrTail, 3},
		{"[1]x[", api.ErrTail, 3}, {"[1 /* */]", api.ErrToken, 3}, {"\ufeff1", api.ErrToken, 0}, {"\u00a01", api.ErrToken, 0}, {"1\v", api.ErrTail, 1},
	} {
		isRefused(t, x.text, x.fault, x.place)
	}
}

// P4.1.4: a name that the object has is told at its first ", ahead of what stands behind it; other objects have no part.
func TestParseNames(t *testing.T) {
	isRefused(t, `{"a":1,"\u0061":2}`, api.ErrName, 7)
	for _, behind := range []string{"", "x", ":", ":1}", " ,", ":nul", ":[[[", "\x00"} {
		isRefused(t, `{"a":1, "a"`+behind, api.ErrName, 8)
	}
	isRefused(t, `{"":1,"":2}`, api.ErrName, 6)
	isRefused(t, `{"a":1,"b":2,"c":3,"b":4}`, api.ErrName, 19)
	isRefused(t, `[{"a":{"b":1,"a":1},"a":2}]`, api.ErrName, 20)
	isRefused(t, `{"a":{"b":1,"b":1},"a":2}`, api.ErrName, 12)
	isRefused(t, `{"é":1,"\u00e9":2}`, api.ErrName, 8)
	isRefused(t, `{"a":1,"a`, api.ErrShort, 9)
	isRefused(t, `{"a":1,"a\x":2}`, api.ErrEscape, 10)
	isRefused(t, `{"a":x,"a":2}`, api.ErrToken, 5)
	isParsed(t, `{"a":1,"A":2,"a ":3,"á":4}`, obj([]string{"a", "A", "a ", "á"}, num("1"), num("2"), num("3"), num("4")))
	isParsed(t, `{"a":{"a":1},"b":{"a":1}}`, obj([]string{"a", "b"}, obj([]string{"a"}, num("1")), obj([]string{"a"}, num("1"))))
}

// P4.1.4, the chapter's example 4: lists and objects stand at the depths up to MaxDepth - 1, others one deeper.
func TestParseDepth(t *testing.T) {
	open, closing := strings.Repeat("[", api.MaxDepth), strings.Repeat("]", api.MaxDepth)
	isParsed(t, open+closing, nested(api.MaxDepth-1, lst()))
	isParsed(t, open+"1"+closing, nested(api.MaxDepth, num("1")))
	isParsed(t, open+`"a",null`+closing, nested(api.MaxDepth-1, lst(txt("a"), null)))
	isRefused(t, "["+open+closing+"]", api.ErrDepth, 32)
	isRefused(t, open+"[", api.ErrDepth, 32)
	isRefused(t, open+"{", api.ErrDepth, 32)
	isRefused(t, open+" 1,  [", api.ErrDepth, 37)
	isRefused(t, open+"}", api.ErrToken, 32)
	objects := strings.Repeat(`{"a":`, api.MaxDepth)
	isRefused(t, objects+"{", api.ErrDepth, 160)
	isRefused(t, objects+"[", api.ErrDepth, 160)
	want := yes
	for range api.MaxDepth {
		want = obj([]string{"a"}, want)
	}
	isParsed(t, objects+"true"+strings.Repeat("}", api.MaxDepth), want)
	isParsed(t, strings.Repeat("[[],", api.MaxDepth-1)+"[]"+closing[1:], parsed(t, strings.Repeat("[[] , ", api.MaxDepth-1)+"[]"+closing[1:]))
	isRefused(t, strings.Repeat("[", 10000), api.ErrDepth, 32)
}

// P4.1: MaxJson bytes are read, one more is not, whatever they are.
func TestParseLong(t *testing.T) {
	letters := strings.Repeat("a", api.MaxJson-2)
	isParsed(t, `"`+letters+`"`, txt(letters))
	isRefused(t, `"`+letters+`a"`, api.ErrLong, 0)
	isParsed(t, strings.Repeat(" ", api.MaxJson-1)+"1", num("1"))
	isRefused(t, strings.Repeat(" ", api.MaxJson)+"1", api.ErrLong, 0)
	isRefused(t, strings.Repeat(" ", api.MaxJson), api.ErrShort, api.MaxJson)
	isRefused(t, strings.Repeat(" ", api.MaxJson-1)+"x", api.ErrToken, api.MaxJson-1)
	isRefused(t, "x"+strings.Repeat(" ", api.MaxJson), api.ErrLong, 0)
	isRefused(t, "1"+strings.Repeat(" ", 1<<20), api.ErrLong, 0)
	ones := strings.Repeat("1", api.MaxJson)
	isParsed(t, ones, num(ones))
	isRefused(t, ones+"1", api.ErrLong, 0)
	if v := parsed(t, "["+strings.Repeat("1,", api.MaxJson/2-2)+"1 ]"); len(v.Items) != api.MaxJson/2-1 {
		t.Errorf("%d items", len(v.Items))
	}
}

// drawnText is a text of a value, with blanks and escapes that need not be there, now and then changed at some places.
func drawnText(r *rand.Rand) string {
	v := drawnValue(r, 3)
	if r.Intn(10) == 0 {
		v = obj([]string{"a", drawnClean(r, 2), "a"}, v, null, v)
	}
	text := loose(r, v)
	for range r.Intn(3) {
		at, wrong := r.Intn(len(text)+1), drawnOf(r, "\"\\[]{},:u0dD8cC\x01\x80\xc3\xf0\xed\xa0 -+.e1ntf/", 2)
		switch behind := text[at:]; r.Intn(5) {
		case 0:
			text = text[:at]
		case 1:
			text = text[:at] + wrong + behind
		case 2:
			text = text[:at] + wrong + behind[min(1, len(behind)):]
		case 3:
			text = text[:at] + behind[min(1, len(behind)):]
		case 4:
			text = text[:at] + text[r.Intn(len(text)+1):]
		}
	}
	return text
}

// loose is one of the texts that say v.
func loose(r *rand.Rand, v api.Json) string {
	gap := func() string { return []string{"", "", "", " ", "\n", "\t\r "}[r.Intn(6)] }
	inner := ""
	for i, item := range v.Items {
		if i > 0 {
			inner += gap() + ","
		}
		if v.Kind == api.JsonObject {
			inner += gap() + looseText(r, v.Names[i]) + gap() + ":"
		}
		inner += gap() + loose(r, item)
	}
	whole := ""
	switch v.Kind {
	case api.JsonNumber:
		whole = v.Text
	case api.JsonText:
		whole = looseText(r, v.Text)
	case api.JsonList:
		whole = "[" + inner + gap() + "]"
	case api.JsonObject:
		whole = "{" + inner + gap() + "}"
	default:
		whole = []string{"null", "false", "true"}[v.Kind]
	}
	return gap() + whole + gap()
}

func looseText(r *rand.Rand, text string) string {
	out := `"`
	for _, c := range text {
		quoted := slowQuote(string(c))
		switch {
		case r.Intn(3) > 0 && c >= 32 && c != '"' && c != '\\':
			out += string(c)
		case r.Intn(3) == 0 && c == '/':
			out += `\/`
		case r.Intn(2) == 0 && c < 0x10000:
			out += fmt.Sprintf(`\u%04X`, c)
		default:
			out += quoted[1 : len(quoted)-1]
		}
	}
	return out + `"`
}

// P4.1 and P4.2, held against the slow way; P4.9: what stands ahead of a fault is whole, or ends too soon there.
func TestParseAgainstTheSlowWay(t *testing.T) {
	r := rand.New(rand.NewSource(41))
	counts := map[api.Errno]int{}
	for range 60000 {
		text := drawnText(r)
		want, errno, place := slowParse(text)
		got, e, at := jtext.Parse(text)
		if !equal(got, want) || e != errno || at != place {
			t.Fatalf("Parse(%q): %v %d %d, not %v %d %d", text, got, e, at, want, errno, place)
		}
		counts[errno]++
		if errno != api.OK {
			isFirst(t, text, place)
		}
	}
	for _, errno := range []api.Errno{api.OK, api.ErrToken, api.ErrText, api.ErrEscape, api.ErrUtf, api.ErrNumber, api.ErrName, api.ErrShort, api.ErrTail} {
		if counts[errno] < 50 {
			t.Errorf("too few of a kind were drawn: %v", counts)
		}
	}
}

// isFirst: P4.9.
func isFirst(t *testing.T, text string, place int) {
	t.Helper()
	if _, e, at := jtext.Parse(text[:place]); e != api.OK && (e != api.ErrShort || at != place) {
		t.Fatalf("Parse(%q), ahead of the fault at %d: %d %d", text, place, e, at)
	}
}

// P4.9 for the faults that are seldom drawn.
func TestFirstFault(t *testing.T) {
	for _, text := range []string{
		strings.Repeat("[", 33), strings.Repeat("[ 1, ", 32) + "{}", strings.Repeat(" ", api.MaxJson+1), `{"a":1,"a":2}`, "1.x", "[1.x", `"\ud83d\ude0"`, `"\ud83dx"`, "\"ab\xe2\x82\"", "\"\xed\xa0\x80", `[1]]`, `"\ud83d\ud83d\ude00"`,
	} {
		_, e, place := jtext.Parse(text)
		if e == api.OK {
			t.Fatalf("Parse(%q) has no fault", text)
		}
		isFirst(t, text, place)
	}
}

// P4.1, held against the library: it reads the same values, and knows no doubled names, no depth and no ErrUtf.
func TestParseAgainstTheLibrary(t *testing.T) {
	r := rand.New(rand.NewSource(42))
	read, refused := 0, 0
	for range 20000 {
		text := drawnText(r)
		v, e, _ := jtext.Parse(text)
		switch valid := json.Valid([]byte(text)); {
		case e == api.OK && !valid:
			t.Fatalf("Parse(%q) is OK", text)
		case e == api.OK:
			read++
			isRead(t, text, v)
		case valid && e != api.ErrUtf && e != api.ErrName && e != api.ErrDepth:
			t.Fatalf("Parse(%q): %d", text, e)
		default:
			refused++
		}
	}
	if read < 5000 || refused < 5000 {
		t.Errorf("too few of a kind were drawn: %d %d", read, refused)
	}
}

func isRead(t *testing.T, text string, v api.Json) {
	t.Helper()
	d := json.NewDecoder(strings.NewReader(text))
	d.UseNumber()
	var want any
	if err := d.Decode(&want); err != nil || !says(v, want) {
		t.Fatalf("Parse(%q): %v, the library %v %v", text, v, want, err)
	}
}

// says: is v what the library read?
func says(v api.Json, want any) bool {
	switch x := want.(type) {
	case nil:
		return v.Kind == api.JsonNull
	case bool:
		return v.Kind == api.JsonTrue && x || v.Kind == api.JsonFalse && !x
	case json.Number:
		return v.Kind == api.JsonNumber && v.Text == string(x)
	case string:
		return v.Kind == api.JsonText && v.Text == x
	case []any:
		for i := range min(len(x), len(v.Items)) {
			if !says(v.Items[i], x[i]) {
				return false
			}
		}
		return v.Kind == api.JsonList && len(v.Items) == len(x)
	case map[string]any:
		for i, name := range v.Names {
			if item, there := x[name]; !there || !says(v.Items[i], item) {
				return false
			}
		}
		return v.Kind == api.JsonObject && len(v.Names) == len(x)
	}
	return false
}
