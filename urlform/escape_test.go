package urlform_test

import (
	"fmt"
	"math/rand"
	"net/url"
	"strings"
	"testing"

	"wicket/api"
	"wicket/urlform"
)

const (
	plainBytes = "ABCDEFGHIJKLMNOPQRSTUVWXYZabcdefghijklmnopqrstuvwxyz0123456789-._*"
	hexDigits  = "0123456789ABCDEFabcdef"
)

// P3.1, the chapter's example 1.
func TestEscapeExamples(t *testing.T) {
	if s := urlform.Escape("a b/ü"); s != "a+b%2F%C3%BC" {
		t.Errorf("Escape: %s", s)
	}
	isText(t, "a+b%2f", "a b/")
	isNoText(t, "%4", api.ErrPercent, 0)
	isNoText(t, "ab%zz", api.ErrPercent, 2)
	isNoText(t, "a b", api.ErrByte, 1)
}

// P3.1: what each byte is escaped as.
func TestEscapeOfEachByte(t *testing.T) {
	whole := ""
	for n := range 256 {
		c := string([]byte{byte(n)})
		want := fmt.Sprintf("%%%02X", n)
		if strings.Contains(plainBytes, c) {
			want = c
		}
		if n == 32 {
			want = "+"
		}
		if s := urlform.Escape(c); s != want {
			t.Errorf("Escape of the byte %d: %s, not %s", n, s, want)
		}
		whole += want
	}
	if s := urlform.Escape(allBytes()); s != whole || urlform.Escape("") != "" {
		t.Errorf("Escape of all bytes: %s", s)
	}
}

// P3.1: Go's library escapes the same way, but for ~ and *.
func TestEscapeAgainstTheLibrary(t *testing.T) {
	r := rand.New(rand.NewSource(1))
	for range 3000 {
		s := drawn(r, 60)
		want := strings.NewReplacer("~", "%7E", "%2A", "*").Replace(url.QueryEscape(s))
		if got := urlform.Escape(s); got != want {
			t.Fatalf("Escape(%q): %s, not %s", s, got, want)
		}
	}
}

// P3.1: what each byte by itself is read as; 33 and 126 are the last that may stand.
func TestUnescapeOfEachByte(t *testing.T) {
	for n := range 256 {
		c := string([]byte{byte(n)})
		switch {
		case n < 33 || n > 126:
			isNoText(t, c, api.ErrByte, 0)
			isNoText(t, "a+%41"+c+"b", api.ErrByte, 5)
		case c == "%":
			isNoText(t, c, api.ErrPercent, 0)
		case c == "+":
			isText(t, c, " ")
		default:
			isText(t, c, c)
			isText(t, "a"+c+"b", "a"+c+"b")
		}
	}
	isText(t, "", "")
}

// P3.1: what each two bytes behind a % are read as.
func TestUnescapeOfEachTwoDigits(t *testing.T) {
	for n := range 1 << 16 {
		two := string([]byte{byte(n >> 8), byte(n)})
		if strings.Contains(hexDigits, two[:1]) && strings.Contains(hexDigits, two[1:]) {
			v := byte(0)
			fmt.Sscanf(two, "%x", &v)
			isText(t, "%"+two, string([]byte{v}))
			isText(t, "0%"+two+"0", "0"+string([]byte{v})+"0")
		} else {
			isNoText(t, "%"+two, api.ErrPercent, 0)
			isNoText(t, "+%"+two+"0", api.ErrPercent, 1)
		}
	}
}

// P3.1: the fault is the first from the left, and what it is hangs on nothing behind it.
func TestUnescapeFirstFault(t *testing.T) {
	for _, x := range []struct {
		s     string
		fault api.Errno
		place int
	}{
		{"%", api.ErrPercent, 0}, {"a%", api.ErrPercent, 1}, {"a%4", api.ErrPercent, 1}, {"%41%4", api.ErrPercent, 3},
		{"%%41", api.ErrPercent, 0}, {"%4%41", api.ErrPercent, 0}, {"%+1", api.ErrPercent, 0}, {"%4 ", api.ErrPercent, 0},
		{"%\x00\x00", api.ErrPercent, 0}, {" %", api.ErrByte, 0}, {"\x7f%zz", api.ErrByte, 0}, {"%zz\x7f", api.ErrPercent, 0},
		{"ü", api.ErrByte, 0}, {"a\n", api.ErrByte, 1}, {"%41\x80", api.ErrByte, 3}, {"%G0", api.ErrPercent, 0}, {"%0g", api.ErrPercent, 0},
		{"%0x4", api.ErrPercent, 0}, {"%-1", api.ErrPercent, 0},
	} {
		isNoText(t, x.s, x.fault, x.place)
	}
}

// slowUnescape goes by P3.1's words: each place is asked by itself.
func slowUnescape(s string) (string, api.Errno, int) {
	taken := map[int]bool{}
	for i := range len(s) {
		if taken[i] {
			continue
		}
		if s[i] < 33 || s[i] > 126 {
			return "", api.ErrByte, i
		}
		if s[i] == '%' {
			if i+2 >= len(s) || !strings.Contains(hexDigits, s[i+1:i+2]) || !strings.Contains(hexDigits, s[i+2:i+3]) {
				return "", api.ErrPercent, i
			}
			taken[i+1], taken[i+2] = true, true
		}
	}
	text, err := url.QueryUnescape(s)
	if err != nil {
		panic(err)
	}
	return text, api.OK, 0
}

// P3.1, held against the slow way.
func TestUnescapeAgainstTheSlowWay(t *testing.T) {
	r := rand.New(rand.NewSource(2))
	faults := map[api.Errno]int{}
	for range 50000 {
		s := drawnOf(r, "%%%%0123456789abcdefABCDEFgG+&=~!zz 09\x7f", 7)
		want, fault, place := slowUnescape(s)
		if got, e, at := urlform.Unescape(s); got != want || e != fault || at != place {
			t.Fatalf("Unescape(%q): %q %d %d, not %q %d %d", s, got, e, at, want, fault, place)
		}
		faults[fault]++
	}
	if faults[api.OK] < 1000 || faults[api.ErrByte] < 1000 || faults[api.ErrPercent] < 1000 {
		t.Errorf("too few of a kind were drawn: %v", faults)
	}
}

// P3.7: Unescape(Escape(s)) is s.
func TestEscapeIsReadBack(t *testing.T) {
	r := rand.New(rand.NewSource(3))
	isText(t, urlform.Escape(allBytes()), allBytes())
	isText(t, urlform.Escape(""), "")
	for range 5000 {
		s := drawn(r, 100)
		isText(t, urlform.Escape(s), s)
	}
	long := strings.Repeat(allBytes(), 1000)
	isText(t, urlform.Escape(long), long)
}
