package urlform_test

import (
	"math/rand"
	"slices"
	"strings"
	"testing"

	"wicket/api"
	"wicket/urlform"
)

// P3.2, the chapter's example 2.
func TestParseExamples(t *testing.T) {
	isParsed(t, "a=1&b=2&&c", pairs("a", "1", "b", "2", "c", ""))
	isParsed(t, "", nil)
	isParsed(t, "a=b=c", pairs("a", "b=c"))
	isParsed(t, "=x", pairs("", "x"))
	isRefused(t, "a=%", api.ErrPercent, 2)
	isRefused(t, strings.Repeat("a&", 65), api.ErrMany, 128)
}

// P3.2: pieces without bytes, names and values without bytes, escapes of what cuts.
func TestParseEdges(t *testing.T) {
	for _, x := range []struct {
		body string
		want []api.Pair
	}{
		{"&", nil}, {"&&&", nil}, {"&a", pairs("a", "")}, {"a&", pairs("a", "")}, {"&a=1&", pairs("a", "1")},
		{"=", pairs("", "")}, {"=&=", pairs("", "", "", "")}, {"==", pairs("", "=")}, {"a==", pairs("a", "=")}, {"a=", pairs("a", "")},
		{"a%3Db=c", pairs("a=b", "c")}, {"a%26b=c%26d", pairs("a&b", "c&d")}, {"a=1%3D", pairs("a", "1=")},
		{"a+b=c+d", pairs("a b", "c d")}, {"%61=%c3%BC", pairs("a", "ü")}, {"%00=%FF", pairs("\x00", "\xff")},
		{"b=1&a=2&b=3", pairs("b", "1", "a", "2", "b", "3")}, {"a=1;b=2", pairs("a", "1;b=2")}, {"~!=?", pairs("~!", "?")},
	} {
		isParsed(t, x.body, x.want)
	}
}

// P3.2: the place is the one in the body, of names and of values, and the first from the left.
func TestParseFirstFault(t *testing.T) {
	for _, x := range []struct {
		body  string
		fault api.Errno
		place int
	}{
		{"%", api.ErrPercent, 0}, {" ", api.ErrByte, 0}, {"a=1&b c", api.ErrByte, 5}, {"a=1&b=c d", api.ErrByte, 7},
		{"%=%", api.ErrPercent, 0}, {"%41=%", api.ErrPercent, 4}, {"a=%&b= ", api.ErrPercent, 2}, {"a= &b=%", api.ErrByte, 2},
		{"&&&a=\x80", api.ErrByte, 5}, {"a=b=%4", api.ErrPercent, 4}, {"a==%", api.ErrPercent, 3}, {"=%", api.ErrPercent, 1},
		{"%4=1", api.ErrPercent, 0}, {"%4&1", api.ErrPercent, 0}, {"%&41", api.ErrPercent, 0}, {"a%=41", api.ErrPercent, 1},
		{"a\r\n", api.ErrByte, 1}, {"a=1&\n", api.ErrByte, 4},
	} {
		isRefused(t, x.body, x.fault, x.place)
	}
}

// P3.2: MaxForm bytes are taken, one more is not, whatever they are.
func TestParseLong(t *testing.T) {
	whole := strings.Repeat("a", api.MaxForm)
	isParsed(t, whole, pairs(whole, ""))
	isParsed(t, strings.Repeat("&", api.MaxForm), nil)
	coded := strings.Repeat("%41", api.MaxForm/3)
	isParsed(t, coded+"=", pairs(strings.Repeat("A", api.MaxForm/3), ""))
	isRefused(t, whole[1:]+"%", api.ErrPercent, api.MaxForm-1)
	isRefused(t, whole+"a", api.ErrLong, 0)
	isRefused(t, strings.Repeat("&", api.MaxForm+1), api.ErrLong, 0)
	isRefused(t, "%"+whole, api.ErrLong, 0)
	isRefused(t, strings.Repeat("a&", api.MaxForm), api.ErrLong, 0)
	isRefused(t, strings.Repeat(" ", 1<<20), api.ErrLong, 0)
}

// P3.2: MaxPairs pairs are taken; the one too many is told ahead of what it says, and behind what pairs ahead of it say.
func TestParseMany(t *testing.T) {
	full := strings.Repeat("&a=1&", api.MaxPairs)
	n := len(full)
	if l := parsed(t, full+"&&&&"); len(l) != api.MaxPairs {
		t.Errorf("%d pairs", len(l))
	}
	isRefused(t, full+"a", api.ErrMany, n)
	isRefused(t, full+"&&&=&b", api.ErrMany, n+3)
	isRefused(t, full+"%", api.ErrMany, n)
	isRefused(t, full+"\x00", api.ErrMany, n)
	isRefused(t, full+"a=%", api.ErrMany, n)
	isRefused(t, "%"+full+"a", api.ErrPercent, 0)
	isRefused(t, full[:n-2]+" &a", api.ErrByte, n-2)
	isRefused(t, strings.Repeat("=&", 300), api.ErrMany, 128)
}

type fault struct {
	errno api.Errno
	place int
}

// slowParse goes by P3.2's words: all faults are listed, and the one furthest left is told, the one named first of two at one place.
func slowParse(body string) ([]api.Pair, api.Errno, int) {
	if len(body) > api.MaxForm {
		return nil, api.ErrLong, 0
	}
	var l []api.Pair
	var faults []fault
	start := 0
	for _, piece := range strings.Split(body, "&") {
		if piece != "" {
			if len(l) == api.MaxPairs {
				faults = append(faults, fault{api.ErrMany, start})
			}
			name, value := piece, ""
			border := strings.Index(piece, "=")
			if border >= 0 {
				name, value = piece[:border], piece[border+1:]
			}
			n, e, at := slowUnescape(name)
			faults = append(faults, fault{e, start + at})
			v, e, at := slowUnescape(value)
			faults = append(faults, fault{e, start + border + 1 + at})
			l = append(l, api.Pair{Name: n, Value: v})
		}
		start += len(piece) + 1
	}
	faults = slices.DeleteFunc(faults, func(f fault) bool { return f.errno == api.OK })
	if len(faults) == 0 {
		return l, api.OK, 0
	}
	slices.SortStableFunc(faults, func(a, b fault) int { return a.place - b.place })
	return nil, faults[0].errno, faults[0].place
}

// P3.2, held against the slow way.
func TestParseAgainstTheSlowWay(t *testing.T) {
	r := rand.New(rand.NewSource(11))
	counts := map[api.Errno]int{}
	alphabets := []string{"ab=&", "abcdefgh&=+", "a=&&&&%4", "abcdefghijklmnopqrstuvwxyz0123456789=&+~%", "a&", "=&", "a=& \x7f", "abcdef=&\xff"}
	for i := range 40000 {
		body := drawnOf(r, alphabets[i%len(alphabets)], 1+i%601)
		want, errno, place := slowParse(body)
		got, e, at := urlform.Parse(body)
		if !slices.Equal(got, want) || e != errno || at != place {
			t.Fatalf("Parse(%q): %q %d %d, not %q %d %d", body, got, e, at, want, errno, place)
		}
		counts[errno]++
	}
	if counts[api.OK] < 1000 || counts[api.ErrByte] < 1000 || counts[api.ErrPercent] < 1000 || counts[api.ErrMany] < 1000 {
		t.Errorf("too few of a kind were drawn: %v", counts)
	}
}

// P3.3, the chapter's example 3 among them.
func TestPrint(t *testing.T) {
	for _, x := range []struct {
		l    []api.Pair
		want string
	}{
		{pairs("a", "x y", "", ""), "a=x+y&="}, {nil, ""}, {pairs("", ""), "="}, {pairs("a", ""), "a="}, {pairs("", "b"), "=b"},
		{pairs("a=b", "c&d"), "a%3Db=c%26d"}, {pairs("a", "1", "a", "1"), "a=1&a=1"}, {pairs("b", "2", "a", "1"), "b=2&a=1"},
		{pairs("ü", "%"), "%C3%BC=%25"}, {pairs("+", "\x00"), "%2B=%00"},
	} {
		if s := urlform.Print(x.l); s != x.want {
			t.Errorf("Print(%q): %s, not %s", x.l, s, x.want)
		}
	}
}

// P3.3 has no limits: more pairs and bytes than Parse takes are printed too.
func TestPrintMany(t *testing.T) {
	for _, count := range []int{api.MaxPairs, api.MaxPairs + 1, 20000} {
		want := strings.Repeat("&n=v", count)[1:]
		l := slices.Repeat(pairs("n", "v"), count)
		if s := urlform.Print(l); s != want {
			t.Errorf("Print of %d pairs: %d bytes", count, len(s))
		}
	}
}

// P3.4, the chapter's example 4 among them.
func TestOne(t *testing.T) {
	l := pairs("a", "1", "b", "", "c", "2", "c", "", "d", "", "d", "", "", "x", "e", "3", "e", "3", "A", "4", "f", "", "f", "5")
	for _, x := range []struct {
		name, value string
		there       bool
		e           api.Errno
	}{
		{"a", "1", true, api.OK}, {"b", "", false, api.OK}, {"c", "", false, api.ErrTwice}, {"d", "", false, api.ErrTwice},
		{"", "x", true, api.OK}, {"e", "", false, api.ErrTwice}, {"A", "4", true, api.OK}, {"f", "", false, api.ErrTwice},
		{"aa", "", false, api.OK}, {"B", "", false, api.OK}, {"x", "", false, api.OK},
	} {
		if v, there, e := urlform.One(l, x.name); v != x.value || there != x.there || e != x.e {
			t.Errorf("One(%q): %q %v %d", x.name, v, there, e)
		}
	}
	for _, l := range [][]api.Pair{nil, pairs("b", "1")} {
		if v, there, e := urlform.One(l, ""); v != "" || there || e != api.OK {
			t.Errorf("One of %q: %q %v %d", l, v, there, e)
		}
	}
	if v, there, e := urlform.One(pairs("", "1", "b", "", "", "1", "", ""), ""); v != "" || there || e != api.ErrTwice {
		t.Errorf("One of three: %q %v %d", v, there, e)
	}
}

// P3.4: where the pairs stand has no part, and other names' pairs have none.
func TestOneAnywhere(t *testing.T) {
	r := rand.New(rand.NewSource(12))
	for range 3000 {
		l := []api.Pair{}
		values := []string{}
		for range r.Intn(8) {
			p := api.Pair{Name: drawnOf(r, "ab", 2), Value: drawnOf(r, "xy", 1)}
			l = append(l, p)
			if p.Name == "a" {
				values = append(values, p.Value)
			}
		}
		v, there, e := urlform.One(l, "a")
		switch {
		case len(values) > 1 && (v != "" || there || e != api.ErrTwice):
			t.Fatalf("One(%q): %q %v %d, though it is there twice", l, v, there, e)
		case len(values) == 1 && (v != values[0] || there != (v != "") || e != api.OK):
			t.Fatalf("One(%q): %q %v %d", l, v, there, e)
		case len(values) == 0 && (v != "" || there || e != api.OK):
			t.Fatalf("One(%q): %q %v %d, though it is not there", l, v, there, e)
		}
	}
}

// P3.7: Parse(Print(l)) is l, up to the limits and no further.
func TestPrintIsReadBack(t *testing.T) {
	r := rand.New(rand.NewSource(13))
	for i := range 2000 {
		l := drawnPairs(r, i%(api.MaxPairs+1), 20)
		isParsed(t, urlform.Print(l), l)
	}
	isParsed(t, urlform.Print(pairs(allBytes(), allBytes())), pairs(allBytes(), allBytes()))
	isParsed(t, "=", pairs("", ""))
	isParsed(t, urlform.Print(slices.Repeat(pairs("", ""), api.MaxPairs)), slices.Repeat(pairs("", ""), api.MaxPairs))
	isRefused(t, urlform.Print(slices.Repeat(pairs("", ""), api.MaxPairs+1)), api.ErrMany, 2*api.MaxPairs)
	longest := pairs("n", strings.Repeat("v", api.MaxForm-2))
	isParsed(t, urlform.Print(longest), longest)
	isRefused(t, urlform.Print(pairs("n", strings.Repeat("v", api.MaxForm-1))), api.ErrLong, 0)
}

// P3.7: Print(Parse(b)) says the same pairs as b.
func TestPrintSaysTheSame(t *testing.T) {
	r := rand.New(rand.NewSource(14))
	for range 10000 {
		body := drawnOf(r, "abc=&+~!", 60)
		if r.Intn(2) == 0 {
			body += "%2f=%C3&%26%3d"
		}
		l := parsed(t, body)
		isParsed(t, urlform.Print(l), l)
	}
}

// P3.8: two bodies one behind the other, & between, have the pairs of both, up to the limits.
func TestBodiesBehindOneAnother(t *testing.T) {
	r := rand.New(rand.NewSource(15))
	for range 5000 {
		a, b := drawnOf(r, "abc=&+~!", 60), drawnOf(r, "abc=&+~!", 60)
		one, two := parsed(t, a), parsed(t, b)
		if len(one)+len(two) <= api.MaxPairs {
			isParsed(t, a+"&"+b, slices.Concat(one, two))
		}
	}
	for _, a := range []string{"", "&", "a", "a&", "&a=", "=", "%41=%42&"} {
		for _, b := range []string{"", "&", "b", "b&", "&b=1", "=1", "%26"} {
			isParsed(t, a+"&"+b, slices.Concat(parsed(t, a), parsed(t, b)))
		}
	}
	half := strings.Repeat("a&", api.MaxPairs/2)
	isParsed(t, half+"&"+half, slices.Repeat(pairs("a", ""), api.MaxPairs))
	isRefused(t, half+"&"+half+"a", api.ErrMany, 2*len(half)+1)
	long := strings.Repeat("x", api.MaxForm/2)
	isParsed(t, long+"&"+long[1:], pairs(long, "", long[1:], ""))
	isRefused(t, long+"&"+long, api.ErrLong, 0)
}
