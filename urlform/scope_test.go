package urlform_test

import (
	"math/rand"
	"slices"
	"sort"
	"strings"
	"testing"

	"wicket/api"
	"wicket/urlform"
)

func isScopes(t *testing.T, text string, want ...string) {
	t.Helper()
	if l := scopesOf(t, text); !slices.Equal(l, want) {
		t.Errorf("Scopes(%q): %q, not %q", text, l, want)
	}
}

func isNoScopes(t *testing.T, text string, fault api.Errno) {
	t.Helper()
	if l, e := urlform.Scopes(text); len(l) != 0 || e != fault {
		t.Errorf("Scopes(%.40q): %q %d, not %d", text, l, e, fault)
	}
}

// P3.5, the chapter's example 5.
func TestScopesExamples(t *testing.T) {
	isScopes(t, "read write read", "read", "write")
	isScopes(t, "")
	for _, text := range []string{"a  b", " a", "a\"b"} {
		isNoScopes(t, text, api.ErrList)
	}
}

// P3.5: which bytes a scope may have, each alone and among others.
func TestScopesOfEachByte(t *testing.T) {
	for n := range 256 {
		c := string([]byte{byte(n)})
		switch {
		case n == 33 || 35 <= n && n <= 91 || 93 <= n && n <= 126:
			isScopes(t, c, c)
			isScopes(t, "a"+c+"b", "a"+c+"b")
		case n == 32:
			isNoScopes(t, c, api.ErrList)
			isScopes(t, "a"+c+"b", "a", "b")
		default:
			isNoScopes(t, c, api.ErrList)
			isNoScopes(t, "a"+c+"b", api.ErrList)
			isNoScopes(t, "a b"+c, api.ErrList)
			isNoScopes(t, c+"a b", api.ErrList)
		}
	}
}

// P3.5: one blank between two, none elsewhere.
func TestScopesBlanks(t *testing.T) {
	for _, text := range []string{" ", "  ", "a ", " a b", "a b ", "a  b", "a   b", "a\tb", "a\nb", "a b  c", "a,b\x00"} {
		isNoScopes(t, text, api.ErrList)
	}
	isScopes(t, "a,b", "a,b")
	isScopes(t, "%20+", "%20+")
}

// P3.5: rising as lists of bytes, each once.
func TestScopesOrder(t *testing.T) {
	isScopes(t, "b a", "a", "b")
	isScopes(t, "ab a abc b", "a", "ab", "abc", "b")
	isScopes(t, "b B a A ~ ! 10 9 1", "!", "1", "10", "9", "A", "B", "a", "b", "~")
	isScopes(t, "a a a a", "a")
	isScopes(t, "b a b a", "a", "b")
	isScopes(t, "a A a", "A", "a")
}

// P3.5: MaxScope bytes are taken, one more is not, whatever they are.
func TestScopesLong(t *testing.T) {
	long := strings.Repeat("a", api.MaxScope)
	isScopes(t, long, long)
	isScopes(t, strings.Repeat("a ", api.MaxScope/2-1)+"aa", "a", "aa")
	isNoScopes(t, long+"a", api.ErrLong)
	isNoScopes(t, strings.Repeat("a ", api.MaxScope/2)+"a", api.ErrLong)
	isNoScopes(t, " "+long, api.ErrLong)
	isNoScopes(t, long+"\"", api.ErrLong)
	isNoScopes(t, long[1:]+" ", api.ErrList)
	isNoScopes(t, strings.Join(names(100), " "), api.ErrLong)
}

// P3.5: MaxScopes different ones are taken, however often they stand there; what is no list is told ahead of too many.
func TestScopesMany(t *testing.T) {
	l := names(api.MaxScopes + 1)
	full := strings.Join(l[:api.MaxScopes], " ")
	sorted := slices.Sorted(slices.Values(l[:api.MaxScopes]))
	isScopes(t, full, sorted...)
	isScopes(t, full+" "+l[0]+" "+l[1], sorted...)
	isNoScopes(t, full+" "+l[api.MaxScopes], api.ErrMany)
	isNoScopes(t, l[0]+" "+full+" "+l[api.MaxScopes], api.ErrMany)
	isNoScopes(t, full+" "+l[api.MaxScopes]+" ", api.ErrList)
	isNoScopes(t, full+" "+l[api.MaxScopes]+"\\", api.ErrList)
	isScopes(t, strings.Repeat("a ", 100)+"b", "a", "b")
}

// slowScopes goes by P3.5's words.
func slowScopes(text string) ([]string, api.Errno) {
	if len(text) > 256 {
		return nil, api.ErrLong
	}
	set := map[string]bool{}
	one := ""
	for _, c := range []byte(text + " ") {
		switch {
		case c == 33 || c >= 35 && c <= 91 || c >= 93 && c <= 126:
			one += string(rune(c))
		case c == ' ' && one != "":
			set[one] = true
			one = ""
		case text != "":
			return nil, api.ErrList
		}
	}
	l := []string{}
	for s := range set {
		l = append(l, s)
	}
	sort.Strings(l)
	if len(l) > 32 {
		return nil, api.ErrMany
	}
	return l, api.OK
}

// P3.5, held against the slow way.
func TestScopesAgainstTheSlowWay(t *testing.T) {
	r := rand.New(rand.NewSource(21))
	counts := map[api.Errno]int{}
	for range 20000 {
		parts := make([]string, r.Intn(80))
		for i := range parts {
			parts[i] = drawnOf(r, "abcdefghijklmnop!#[]~Z09", 2) + "a"
		}
		text := strings.Join(parts, " ")
		if r.Intn(4) == 0 {
			at := r.Intn(len(text) + 1)
			text = text[:at] + drawn(r, 1) + text[at:]
		}
		want, fault := slowScopes(text)
		got, e := urlform.Scopes(text)
		if !slices.Equal(got, want) || e != fault {
			t.Fatalf("Scopes(%q): %q %d, not %q %d", text, got, e, want, fault)
		}
		counts[fault]++
	}
	if counts[api.OK] < 1000 || counts[api.ErrList] < 1000 || counts[api.ErrMany] < 1000 {
		t.Errorf("too few of a kind were drawn: %v", counts)
	}
}

// P3.9: another order, and a scope twice, give the same list.
func TestScopesOrderHasNoPart(t *testing.T) {
	r := rand.New(rand.NewSource(22))
	for range 3000 {
		l := names(1 + r.Intn(api.MaxScopes))
		want := scopesOf(t, strings.Join(l, " "))
		r.Shuffle(len(l), func(i, j int) { l[i], l[j] = l[j], l[i] })
		isScopes(t, strings.Join(l, " "), want...)
		l = slices.Insert(l, r.Intn(len(l)), l[r.Intn(len(l))])
		isScopes(t, strings.Join(l, " "), want...)
	}
}

// P3.5: the list as text, one blank between two, gives itself.
func TestScopesOfTheirOwnList(t *testing.T) {
	for _, text := range []string{"", "a", "write read", "b a c a b"} {
		l := scopesOf(t, text)
		isScopes(t, strings.Join(l, " "), l...)
	}
}

// P3.6, the chapter's example 6 among them.
func TestWithin(t *testing.T) {
	a, ab, ba, c, none := []string{"a"}, []string{"a", "b"}, []string{"b", "a"}, []string{"c"}, []string{}
	for _, x := range []struct {
		l, all []string
		want   bool
	}{
		{a, ab, true}, {c, a, false}, {none, none, true}, {nil, nil, true}, {nil, a, true}, {a, nil, false}, {a, none, false},
		{ab, ba, true}, {ba, ab, true}, {ab, a, false}, {ba, a, false}, {[]string{"a", "a"}, a, true}, {a, []string{"a", "a"}, true},
		{[]string{"a", "c"}, ab, false}, {[]string{"c", "a"}, ab, false}, {[]string{""}, ab, false}, {[]string{""}, none, false}, {[]string{""}, []string{""}, true},
		{[]string{"A"}, a, false}, {[]string{"ab"}, ab, false}, {a, []string{"ab"}, false}, {[]string{"a b"}, ab, false},
		{[]string{"\xff \""}, []string{"x", "\xff \""}, true},
	} {
		if got := urlform.Within(x.l, x.all); got != x.want {
			t.Errorf("Within(%q, %q): %v", x.l, x.all, got)
		}
	}
}

// P3.6: neither list need be rising, and each text of the first is asked for.
func TestWithinOfDrawnLists(t *testing.T) {
	r := rand.New(rand.NewSource(23))
	for range 5000 {
		l, all := make([]string, r.Intn(4)), make([]string, r.Intn(6))
		for i := range l {
			l[i] = drawnOf(r, "ab", 2)
		}
		for i := range all {
			all[i] = drawnOf(r, "ab", 2)
		}
		want := true
		for _, s := range l {
			want = want && strings.Contains("|"+strings.Join(all, "|")+"|", "|"+s+"|") && len(all) > 0
		}
		if got := urlform.Within(l, all); got != want {
			t.Fatalf("Within(%q, %q): %v", l, all, got)
		}
	}
}
