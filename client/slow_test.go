package client_test

import (
	"encoding/base64"
	"math/rand"
	"net/url"
	"regexp"
	"slices"
	"strings"
	"testing"

	"wicket/api"
	"wicket/client"
)

var (
	slowId     = regexp.MustCompile(`^[!-~]{1,64}$`)
	slowSecret = regexp.MustCompile(`^[ -~]{0,256}$`)
	slowUrl    = regexp.MustCompile(`^https://[!-~]{1,248}$`)
	slowScope  = regexp.MustCompile(`^[!#-\[\]-~]+$`)
	slowForm   = regexp.MustCompile(`^([!-$&-~]|%[0-9A-Fa-f]{2})*$`)
	slowHead   = regexp.MustCompile(`^[Bb][Aa][Ss][Ii][Cc] +([A-Za-z0-9+/]*={0,2})$`)
)

func seeded(n int64) *rand.Rand { return rand.New(rand.NewSource(n)) }

// slowScopes are the scopes that a text says, by the words of chapter 3.
func slowScopes(text string) ([]string, bool) {
	if text == "" {
		return nil, true
	}
	l := strings.Split(text, " ")
	for _, s := range l {
		if !slowScope.MatchString(s) {
			return nil, false
		}
	}
	slices.Sort(l)
	l = slices.Compact(l)
	return l, len(text) <= 256 && len(l) <= 32
}

func slowCheck(c api.Client) api.Errno {
	right := slowId.MatchString(c.Id) && slowSecret.MatchString(c.Secret)
	right = right && slices.Contains([]int{1, 2, 3}, c.Grants)
	if c.Ping {
		right = right && c.Grants != 1 && c.Secret != "" && slowUrl.MatchString(c.Url)
	} else {
		right = right && c.Url == ""
	}
	l, ok := slowScopes(strings.Join(c.Scopes, " "))
	if right && ok && slices.Equal(l, c.Scopes) {
		return api.OK
	}
	return api.ErrClient
}

// slowUnescaped is by the library, of what the chapter lets stand.
func slowUnescaped(s string) (string, bool) {
	text, err := url.QueryUnescape(s)
	return text, err == nil && slowForm.MatchString(s)
}

// slowValues are the values of each name of a form, as they stand in it.
func slowValues(line string) (map[string][]string, bool) {
	values := map[string][]string{}
	for _, piece := range strings.Split(line, "&") {
		if piece == "" {
			continue
		}
		name, value, _ := strings.Cut(piece, "=")
		n, ok := slowUnescaped(name)
		v, okToo := slowUnescaped(value)
		if !ok || !okToo {
			return nil, false
		}
		values[n] = append(values[n], v)
	}
	return values, len(line) <= 16384
}

// slowLine is the client that a line says, by the chapter's words.
func slowLine(line string) (api.Client, bool) {
	values, ok := slowValues(line)
	value := map[string]string{}
	for name, l := range values {
		if len(l) > 1 || !slices.Contains([]string{"id", "secret", "grants", "ping", "url", "scope"}, name) {
			return api.Client{}, false
		}
		value[name] = l[0]
	}
	grants, isList := slowScopes(value["grants"])
	scopes, isListToo := slowScopes(value["scope"])
	number, known := map[string]int{"": 0, "device": 1, "ciba": 2, "ciba device": 3}[strings.Join(grants, " ")]
	isPing := value["ping"] == "yes" || value["ping"] == ""
	c := api.Client{Id: value["id"], Secret: value["secret"], Grants: number, Ping: value["ping"] == "yes", Url: value["url"], Scopes: scopes}
	return c, ok && isList && isListToo && known && isPing && slowCheck(c) == api.OK
}

func slowParse(text string) ([]api.Client, api.Errno, int) {
	if len(text) > 65536 {
		return nil, api.ErrLong, 0
	}
	var l []api.Client
	for i, line := range strings.Split(text, "\n") {
		if strings.HasPrefix(line+"#", "#") {
			continue
		}
		c, ok := slowLine(line)
		switch {
		case !ok:
			return nil, api.ErrLine, i + 1
		case slices.ContainsFunc(l, func(d api.Client) bool { return c.Id == d.Id }):
			return nil, api.ErrThere, i + 1
		case len(l) == 256:
			return nil, api.ErrMany, i + 1
		}
		l = append(l, c)
	}
	return l, api.OK, 0
}

// slowEscaped is by the library, which has another mind of two bytes.
func slowEscaped(s string) string {
	return strings.NewReplacer("~", "%7E", "%2A", "*").Replace(url.QueryEscape(s))
}

func slowPrint(l []api.Client) string {
	var out strings.Builder
	for _, c := range l {
		out.WriteString("id=" + slowEscaped(c.Id))
		if c.Secret != "" {
			out.WriteString("&secret=" + slowEscaped(c.Secret))
		}
		out.WriteString("&grants=" + []string{"", "device", "ciba", "ciba+device"}[c.Grants])
		if c.Ping {
			out.WriteString("&ping=yes&url=" + slowEscaped(c.Url))
		}
		if len(c.Scopes) > 0 {
			out.WriteString("&scope=" + slowEscaped(strings.Join(c.Scopes, " ")))
		}
		out.WriteString("\n")
	}
	return out.String()
}

// slowBasicText is the name and the secret that a header says.
func slowBasicText(head string) ([2]string, api.Errno) {
	m := slowHead.FindStringSubmatch(head)
	if len(head) > 1024 || m == nil {
		return [2]string{}, api.ErrBasic
	}
	text, err := base64.StdEncoding.Strict().DecodeString(m[1])
	name, secret, there := strings.Cut(string(text), ":")
	n, ok := slowUnescaped(name)
	s, okToo := slowUnescaped(secret)
	if err != nil || !there || !ok || !okToo {
		return [2]string{}, api.ErrBasic
	}
	return [2]string{n, s}, api.OK
}

// slowProof is Authenticate by the chapter's words: who it is, how, and the error.
func slowProof(l []api.Client, head string, f []api.Pair) (api.Client, int, api.Errno) {
	count, value := map[string]int{}, map[string]string{}
	for _, p := range f {
		count[p.Name]++
		value[p.Name] = p.Value
	}
	id, secret := value["client_id"], value["client_secret"]
	find := func(name string) (api.Client, bool) {
		at := slices.IndexFunc(l, func(c api.Client) bool { return c.Id == name })
		if at < 0 {
			return api.Client{}, false
		}
		return l[at], true
	}
	if count["client_id"] > 1 || count["client_secret"] > 1 {
		return api.Client{}, 0, api.ErrTwice
	}
	if head == "" {
		c, there := find(id)
		switch {
		case id == "":
			return api.Client{}, 0, api.ErrNone
		case !there:
			return api.Client{}, 0, api.ErrClient
		case c.Secret != secret:
			return api.Client{}, 0, api.ErrProof
		case secret == "":
			return c, api.ProofNone, api.OK
		}
		return c, api.ProofPost, api.OK
	}
	said, e := slowBasicText(head)
	c, there := find(said[0])
	switch {
	case e != api.OK:
		return api.Client{}, 0, e
	case secret != "":
		return api.Client{}, 0, api.ErrTwice
	case id != "" && id != said[0]:
		return api.Client{}, 0, api.ErrProof
	case !there:
		return api.Client{}, 0, api.ErrClient
	case c.Secret == "" || c.Secret != said[1]:
		return api.Client{}, 0, api.ErrProof
	}
	return c, api.ProofBasic, api.OK
}

// bent is c with one thing changed, so that it is mostly not valid.
func bent(r *rand.Rand, c api.Client) api.Client {
	odd := string([]byte{[]byte{0, 10, 31, 32, 33, 126, 127, 128, 255}[r.Intn(9)]})
	switch r.Intn(12) {
	case 0:
		c.Id = ""
	case 1:
		c.Id += odd
	case 2:
		c.Id = strings.Repeat("i", 63+r.Intn(3))
	case 3:
		c.Secret += odd
	case 4:
		c.Secret = strings.Repeat("s", 255+r.Intn(3))
	case 5:
		c.Grants = r.Intn(7) - 2
	case 6:
		c.Ping = !c.Ping
	case 7:
		c.Url += odd
	case 8:
		c.Url = "https://" + strings.Repeat("u", []int{0, 1, 247, 248, 249}[r.Intn(5)])
	case 9:
		c.Scopes = append(c.Scopes, []string{"", odd, "a b", "~~~", "!", "\""}[r.Intn(6)])
	case 10:
		c.Scopes = append(c.Scopes, strings.Repeat("~", 200+r.Intn(60)))
	case 11:
		c.Scopes = scopesOf(31+r.Intn(3), 254+r.Intn(4))
	}
	return c
}

// spoilt is a text with a byte changed, put in or taken out.
func spoilt(r *rand.Rand, text string) string {
	const bytes = "&=+%#\n a:0\x00\xff\"-_/A"
	b := bytes[r.Intn(len(bytes))]
	at := r.Intn(len(text) + 1)
	if r.Intn(3) == 0 || at == len(text) {
		return text[:at] + string([]byte{b}) + text[at:]
	}
	if r.Intn(2) == 0 {
		return text[:at] + text[at+1:]
	}
	return text[:at] + string([]byte{b}) + text[at+1:]
}

// drawnWritten is a text as it may stand in a form, or nearly so.
func drawnWritten(r *rand.Rand) string {
	var out strings.Builder
	for range r.Intn(8) {
		out.WriteString([]string{"a", "tv", "b", "+", "%20", "%3A", "%3a", "%25", ":", "/", "~", "%00", "?>", "*"}[r.Intn(14)])
	}
	if r.Intn(12) == 0 {
		return spoilt(r, out.String())
	}
	return out.String()
}

// drawnHeader says that name and that secret, as they are written; now and then a byte of it is another.
func drawnHeader(r *rand.Rand, name, secret string) string {
	head := []string{"Basic ", "Basic ", "basic   ", "bASIC "}[r.Intn(4)] + coded(name+":"+secret)
	switch r.Intn(12) {
	case 0:
		return spoilt(r, head)
	case 1:
		return strings.TrimSuffix(head, "=")
	case 2:
		return head + "="
	case 3:
		return "Basic" + strings.Repeat(" ", max(1, 1023+r.Intn(3)-len(head))) + coded(name+":"+secret)
	}
	return head
}

// drawnLine is one that says c, its names in an order that is drawn, or nearly so.
func drawnLine(r *rand.Rand, c api.Client) string {
	line := strings.TrimSuffix(slowPrint([]api.Client{c}), "\n")
	pieces := strings.Split(line, "&")
	if r.Intn(2) == 0 {
		r.Shuffle(len(pieces), func(i, j int) { pieces[i], pieces[j] = pieces[j], pieces[i] })
	}
	switch r.Intn(14) {
	case 0:
		at := r.Intn(len(pieces))
		pieces = slices.Delete(pieces, at, at+1)
	case 1:
		pieces = append(pieces, pieces[r.Intn(len(pieces))])
	case 2:
		pieces = append(pieces, []string{"secret=", "ping=", "ping=no", "ping=yes", "url=", "url=https://a/", "scope=", "scope=b+a", "", "x=1", "x=", "id="}[r.Intn(12)])
	case 3:
		return spoilt(r, strings.Join(pieces, "&"))
	}
	return strings.Join(pieces, "&")
}

// drawnRegistry has some lines, most of them right.
func drawnRegistry(r *rand.Rand) string {
	var lines []string
	for range r.Intn(5) {
		switch r.Intn(8) {
		case 0:
			lines = append(lines, []string{"", "#", "# id=a", "#\xff"}[r.Intn(4)])
		case 1:
			lines = append(lines, "id="+string([]byte{byte('a' + r.Intn(3))})+"&grants=device")
		default:
			lines = append(lines, drawnLine(r, drawnClient(r)))
		}
	}
	return strings.Join(lines, "\n") + []string{"", "\n"}[r.Intn(2)]
}

// P11.1: drawn registries against the slow way.
func TestParseAgainstSlow(t *testing.T) {
	r := seeded(1)
	count := map[api.Errno]int{}
	for range 20000 {
		text := drawnRegistry(r)
		want, fault, line := slowParse(text)
		if l, e, at := client.Parse(text); !sameList(l, want) || e != fault || at != line {
			t.Fatalf("Parse(%q): %+v %d %d, not %+v %d %d", text, l, e, at, want, fault, line)
		}
		count[fault]++
	}
	if count[api.OK] < 3000 || count[api.ErrLine] < 3000 || count[api.ErrThere] < 100 {
		t.Errorf("told: %v", count)
	}
}

// P11.2: drawn clients against the slow way.
func TestPrintAgainstSlow(t *testing.T) {
	r := seeded(2)
	for range 5000 {
		var l []api.Client
		for range r.Intn(5) {
			c := drawnClient(r)
			if _, there := client.Find(l, c.Id); !there {
				l = append(l, c)
			}
		}
		isPrinted(t, slowPrint(l), l...)
	}
}

// Rule 1: whatever bytes come, there is an answer, the slow way's.
func TestAnyBytes(t *testing.T) {
	r := seeded(4)
	words := []string{"id", "=", "&", "a", "grants", "device", "\n", "#", "%", "+", "ciba", "secret", " ", "Basic", "dHY6", "\x00", "\xff", "client_id"}
	for range 20000 {
		var out strings.Builder
		for range r.Intn(12) {
			out.WriteString(words[r.Intn(len(words))])
		}
		text := out.String()
		want, fault, line := slowParse(text)
		if l, e, at := client.Parse(text); !sameList(l, want) || e != fault || at != line {
			t.Fatalf("Parse(%q): %+v %d %d, not %+v %d %d", text, l, e, at, want, fault, line)
		}
		said, no := slowBasicText(text)
		if n, s, e := client.Basic(text); n != said[0] || s != said[1] || e != no {
			t.Fatalf("Basic(%q): %q %q %d, not %q %d", text, n, s, e, said, no)
		}
	}
}
