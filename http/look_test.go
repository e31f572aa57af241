package http_test

import (
	"slices"
	"strings"
	"testing"

	"wicket/api"
	"wicket/http"
)

func finds(t *testing.T, l []api.Pair, name, want string, there bool, errno api.Errno) {
	t.Helper()
	if v, ok, e := http.Field(l, name); v != want || ok != there || e != errno {
		t.Errorf("Field(%.80q, %.80q): %.80q %v %d, not %.80q %v %d", l, name, v, ok, e, want, there, errno)
	}
}

// P15.5: the one that has the name, whatever letters it has; none; more than one.
func TestField(t *testing.T) {
	l := pairs("Host", "a", "x", "1", "X", "2", "e", "", "y", "", "Y", "", "y", "3", "-", "A")
	finds(t, l, "host", "a", true, api.OK)
	finds(t, l, "HOST", "a", true, api.OK)
	finds(t, l, "Host", "a", true, api.OK)
	finds(t, l, "E", "", true, api.OK)
	finds(t, l, "-", "A", true, api.OK)
	finds(t, l, "x", "", false, api.ErrTwice)
	finds(t, l, "X", "", false, api.ErrTwice)
	finds(t, l, "y", "", false, api.ErrTwice)
	finds(t, l, "no", "", false, api.OK)
	finds(t, l, "", "", false, api.OK)
	finds(t, l, "hos", "", false, api.OK)
	finds(t, l, "hosts", "", false, api.OK)
	finds(t, nil, "a", "", false, api.OK)
	finds(t, nil, "", "", false, api.OK)
	finds(t, pairs("a", "1", "b", "2", "a", "1"), "a", "", false, api.ErrTwice)
	finds(t, pairs("a", "1", "b", "2", "a", "1"), "b", "2", true, api.OK)
}

// P15.5: names that may not be in a message are names too, and only letters A to Z have small ones.
func TestFieldOddNames(t *testing.T) {
	finds(t, pairs("", "v"), "", "v", true, api.OK)
	finds(t, pairs("", "v", "", "w"), "", "", false, api.ErrTwice)
	finds(t, pairs("ä", "v", "Ä", "w"), "Ä", "w", true, api.OK)
	finds(t, pairs("\u212a", "v"), "k", "", false, api.OK)
	finds(t, pairs("\xff", "v", "\xfe", "w", "\ufffd", "x"), "\xfe", "w", true, api.OK)
	finds(t, pairs("@", "1", "`", "2", "[", "3", "{", "4"), "@", "1", true, api.OK)
	finds(t, pairs("@", "1", "`", "2", "[", "3", "{", "4"), "{", "4", true, api.OK)
	finds(t, pairs("content-length", "7"), "Content-Length", "7", true, api.OK)
	finds(t, pairs("A Z", "\x00"), "a z", "\x00", true, api.OK)
	for c := range 256 {
		name := string([]byte{byte(c)})
		want := strings.ToLower(bytesFrom(0, 127))
		for other := range 256 {
			same := c == other || c < 128 && other < 128 && want[c] == want[other]
			value := ""
			if same {
				value = "v"
			}
			finds(t, pairs(string([]byte{byte(other)}), "v"), name, value, same, api.OK)
		}
	}
}

// P15.5 has no limits.
func TestFieldOfMany(t *testing.T) {
	l := slices.Repeat(pairs("a", "b"), 50000)
	finds(t, l, "a", "", false, api.ErrTwice)
	finds(t, l, "b", "", false, api.OK)
	long := strings.Repeat("Nn", 100000)
	finds(t, append(l, pairs(long, long)...), strings.ToUpper(long), long, true, api.OK)
}

// P15.6, the chapter's example 4 among them.
func TestMedia(t *testing.T) {
	for value, want := range map[string]string{
		" Application/JSON ; q=1": "application/json", "a": "a", "": "", ";": "", "A;B;C": "a", " ; x": "", "\t \tA\t \t": "a", "a b": "a b", "A\tB ;": "a\tb",
		"text/html;charset=UTF-8": "text/html", ";A": "", "A": "a", "Z": "z", "@[`{": "@[`{", "Ä": "Ä", "\u212a": "\u212a", "\xffA": "\xffa", "\r\nA\r\n": "\r\na\r\n", "\u00a0A": "\u00a0a",
		"\vA\f": "\va\f", "a,b": "a,b", capitals + digits: smalls + digits, strings.Repeat("M", 100000) + ";": strings.Repeat("m", 100000),
	} {
		if got := http.Media(value); got != want {
			t.Errorf("Media(%.80q): %.80q, not %.80q", value, got, want)
		}
	}
}

// P15.6, the chapter's example 4 among them.
func TestSplit(t *testing.T) {
	for _, x := range [][3]string{
		{"/a?b?c", "/a", "b?c"}, {"/a", "/a", ""}, {"/a?", "/a", ""}, {"?", "", ""}, {"?b", "", "b"}, {"", "", ""}, {"??", "", "?"}, {"/A B#c?\x00?", "/A B#c", "\x00?"},
	} {
		if path, query := http.Split(x[0]); path != x[1] || query != x[2] {
			t.Errorf("Split(%q): %q, %q", x[0], path, query)
		}
	}
}
