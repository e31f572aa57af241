package http_test

import (
	"math/rand"
	"regexp"
	"strconv"
	"strings"
	"testing"

	"wicket/api"
	"wicket/http"
)

// What may be, said by patterns; how long it may be is asked beside them.
var (
	methodPattern = regexp.MustCompile(`^[A-Z]{1,16}$`)
	targetPattern = regexp.MustCompile(`^/[!-~]*$`)
	namePattern   = regexp.MustCompile(`^[A-Za-z0-9-]{1,64}$`)
	valuePattern  = regexp.MustCompile(`^([!-~]([ -~]*[!-~])?)?$`)
	ownPattern    = regexp.MustCompile(`^(?i:content-length|transfer-encoding)$`)
	linePattern   = regexp.MustCompile(`^([^:]*):[ \t]*([ -~\t]*?)[ \t]*$`)
	sizePattern   = regexp.MustCompile(`^[0-9]{1,9}$`)
	firstPattern  = regexp.MustCompile(`^([A-Z]*)( ?)([!-~]*)( ?)(HTTP/1\.1\r\n)?`)
	statusPattern = regexp.MustCompile(`^HTTP/1\.1 ([1-5][0-9][0-9]) ([A-Za-z ]*)\r\n`)
)

func slowField(name, value string) bool {
	return namePattern.MatchString(name) && valuePattern.MatchString(value) && len(value) <= api.MaxFieldValue
}

// slowRest reads what stands behind a first line by P15.1's words.
func slowRest(raw string, at int) ([]api.Pair, string, api.Errno, int) {
	var l []api.Pair
	length := -1
	for !strings.HasPrefix(raw[at:], "\r\n") {
		end := strings.Index(raw[at:], "\r\n")
		if end < 0 {
			return nil, "", api.ErrField, at
		}
		m := linePattern.FindStringSubmatch(raw[at : at+end])
		if m == nil || !slowField(m[1], m[2]) {
			return nil, "", api.ErrField, at
		}
		switch name := strings.ToLower(m[1]); {
		case name == "transfer-encoding", name == "content-length" && (length >= 0 || !sizePattern.MatchString(m[2])):
			return nil, "", api.ErrLength, at
		case name == "content-length":
			length, _ = strconv.Atoi(m[2])
		case len(l) == api.MaxFields:
			return nil, "", api.ErrMany, at
		default:
			l = append(l, api.Pair{Name: name, Value: m[2]})
		}
		at += end + 2
	}
	at += 2
	if len(raw)-at != max(length, 0) {
		return nil, "", api.ErrBody, at
	}
	return l, raw[at:], api.OK, 0
}

func slowParseRequest(raw string) (api.Request, api.Errno, int) {
	if len(raw) > api.MaxHttp {
		return api.Request{}, api.ErrLong, 0
	}
	m := firstPattern.FindStringSubmatch(raw)
	switch target := len(m[1]) + 1; {
	case !methodPattern.MatchString(m[1]) || m[2] == "":
		return api.Request{}, api.ErrMethod, 0
	case !targetPattern.MatchString(m[3]) || len(m[3]) > api.MaxTarget || m[4] == "":
		return api.Request{}, api.ErrTarget, target
	case m[5] == "":
		return api.Request{}, api.ErrVersion, target + len(m[3]) + 1
	}
	l, body, e, at := slowRest(raw, len(m[0]))
	if e != api.OK {
		return api.Request{}, e, at
	}
	return api.Request{Method: m[1], Target: m[3], Fields: l, Body: body}, api.OK, 0
}

func slowParseResponse(raw string) (api.Response, api.Errno, int) {
	if len(raw) > api.MaxHttp {
		return api.Response{}, api.ErrLong, 0
	}
	if !strings.HasPrefix(raw, "HTTP/1.1 ") {
		return api.Response{}, api.ErrVersion, 0
	}
	m := statusPattern.FindStringSubmatch(raw)
	if m == nil {
		return api.Response{}, api.ErrStatus, 9
	}
	status, _ := strconv.Atoi(m[1])
	if reasons()[status] != m[2] {
		return api.Response{}, api.ErrStatus, 9
	}
	l, body, e, at := slowRest(raw, len(m[0]))
	if e != api.OK {
		return api.Response{}, e, at
	}
	return api.Response{Status: status, Fields: l, Body: body}, api.OK, 0
}

// slowPrint prints by P15.2's words, behind a first line.
func slowPrint(first string, l []api.Pair, body string) (string, api.Errno) {
	if len(l) > api.MaxFields {
		return "", api.ErrMany
	}
	lines := []string{first}
	for _, p := range l {
		if !slowField(p.Name, p.Value) || ownPattern.MatchString(p.Name) {
			return "", api.ErrField
		}
		lines = append(lines, strings.TrimSuffix(strings.ToLower(p.Name)+": "+p.Value, " "))
	}
	if body != "" {
		lines = append(lines, "content-length: "+strconv.Itoa(len(body)))
	}
	s := strings.Join(append(lines, "", body), "\r\n")
	if len(s) > api.MaxHttp {
		return "", api.ErrLong
	}
	return s, api.OK
}

func slowPrintRequest(q api.Request) (string, api.Errno) {
	if !methodPattern.MatchString(q.Method) {
		return "", api.ErrMethod
	}
	if !targetPattern.MatchString(q.Target) || len(q.Target) > api.MaxTarget {
		return "", api.ErrTarget
	}
	return slowPrint(q.Method+" "+q.Target+" HTTP/1.1", q.Fields, q.Body)
}

func slowPrintResponse(p api.Response) (string, api.Errno) {
	if p.Status < 100 || p.Status > 599 {
		return "", api.ErrStatus
	}
	return slowPrint("HTTP/1.1 "+strconv.Itoa(p.Status)+" "+reasons()[p.Status], p.Fields, p.Body)
}

// seldom is one of the odd texts now and then, else s.
func seldom(r *rand.Rand, s string, odd ...string) string {
	if r.Intn(25) == 0 {
		return oneOf(r, odd...)
	}
	return s
}

func drawnMethod(r *rand.Rand) string {
	return seldom(r, drawnOf(r, capitals, 1+r.Intn(16)), "", "get", "G T", "GET\t", strings.Repeat("M", 16), strings.Repeat("M", 17))
}

func drawnTarget(r *rand.Rand) string {
	return seldom(r, "/"+drawnOf(r, bytesFrom(33, 126), r.Intn(12)), "", "x", "/ x", "/\x7f", "/"+strings.Repeat("t", 1023), "/"+strings.Repeat("t", 1024))
}

func drawnName(r *rand.Rand) string {
	return seldom(r, drawnOf(r, smalls+capitals+digits+"-", 1+r.Intn(8)), "", "a b", "a_", "Content-Length", "transfer-encoding", "Content-Type", strings.Repeat("n", 64), strings.Repeat("N", 65))
}

func drawnValue(r *rand.Rand) string {
	v := strings.TrimSpace(drawnOf(r, bytesFrom(32, 126), r.Intn(12)))
	return seldom(r, v, " a", "a ", "a\tb", "\x1f", "\x7f", "a\nb", "3", "+1", strings.Repeat("v", 4096), strings.Repeat("v", 4097))
}

// drawnFields are a few, and now and then about MaxFields with plain ones among them.
func drawnFields(r *rand.Rand) []api.Pair {
	var l []api.Pair
	for range r.Intn(5) {
		l = append(l, api.Pair{Name: drawnName(r), Value: drawnValue(r)})
	}
	if r.Intn(20) == 0 {
		for count := api.MaxFields - 1 + r.Intn(3); len(l) < count; {
			l = append(l, api.Pair{Name: "n", Value: "v"})
		}
		r.Shuffle(len(l), func(i, k int) { l[i], l[k] = l[k], l[i] })
	}
	return l
}

var allBytes = bytesFrom(0, 255)

func drawnBody(r *rand.Rand) string {
	if r.Intn(40) == 0 {
		return strings.Repeat("b", 30000+r.Intn(4000))
	}
	return seldom(r, drawnOf(r, allBytes, r.Intn(12)), "", "\r\n\r\n")
}

// drawnRest is what may stand behind a first line, most times rightly.
func drawnRest(r *rand.Rand) string {
	var out strings.Builder
	body := drawnBody(r)
	lines := drawnFields(r)
	if body != "" || r.Intn(3) == 0 {
		at := r.Intn(len(lines) + 1)
		size := api.Pair{Name: oneOf(r, "content-length", "Content-Length"), Value: seldom(r, strconv.Itoa(len(body)), "", "x", "+1", "999999999", "1000000000", "0")}
		lines = append(lines[:at:at], append([]api.Pair{size}, lines[at:]...)...)
	}
	for _, f := range lines {
		out.WriteString(f.Name + ":" + oneOf(r, "", " ", "\t", " \t ") + f.Value + oneOf(r, "", " ", "\t") + "\r\n")
	}
	return out.String() + "\r\n" + body
}

// bent is s with a byte more, less, or another, or cut off.
func bent(r *rand.Rand, s string) string {
	at := r.Intn(len(s) + 1)
	odd := oneOf(r, "\r", "\n", "\r\n", " ", "\t", ":", "\x00", "\x7f", "\xff", "a", "A", "0")
	switch n := r.Intn(5); {
	case n == 0:
		return s[:at]
	case n == 1:
		return s + odd
	case n == 2 && at < len(s):
		return s[:at] + odd + s[at+1:]
	case n == 3 && at < len(s):
		return s[:at] + s[at+1:]
	}
	return s[:at] + odd + s[at:]
}

func seldomBent(r *rand.Rand, s string) string {
	for r.Intn(2) == 0 {
		s = bent(r, s)
	}
	return s
}

func drawnRequestText(r *rand.Rand) string {
	return seldomBent(r, drawnMethod(r)+" "+drawnTarget(r)+" "+seldom(r, "HTTP/1.1", "HTTP/1.0", "")+"\r\n"+drawnRest(r))
}

func drawnResponseText(r *rand.Rand) string {
	status := drawnStatus(r)
	return seldomBent(r, seldom(r, "HTTP/1.1", "HTTP/1.0", "")+" "+strconv.Itoa(status)+" "+seldom(r, reasons()[status], "OK", "Fine", "")+"\r\n"+drawnRest(r))
}

func drawnStatus(r *rand.Rand) int {
	known := []int{200, 204, 400, 401, 403, 404, 405, 413, 415, 429, 500, 503}
	if r.Intn(2) == 0 {
		return known[r.Intn(len(known))]
	}
	return 90 + r.Intn(520)
}

// drewAll asks that each of the errors, and none, came often enough.
func drewAll(t *testing.T, counts map[api.Errno]int, least int, errnos ...api.Errno) {
	t.Helper()
	for _, e := range append(errnos, api.OK) {
		if counts[e] < least {
			t.Errorf("%d came %d times", e, counts[e])
		}
	}
}

// P15.1, held against the slow way.
func TestParseRequestAgainstTheSlowWay(t *testing.T) {
	r := rand.New(rand.NewSource(151))
	counts := map[api.Errno]int{}
	for range 20000 {
		raw := drawnRequestText(r)
		want, errno, place := slowParseRequest(raw)
		q, e, at := http.ParseRequest(raw)
		if !sameRequest(q, want) || e != errno || at != place {
			t.Fatalf("ParseRequest(%q): %q %d %d, not %q %d %d", raw, q, e, at, want, errno, place)
		}
		counts[e]++
	}
	drewAll(t, counts, 20, api.ErrLong, api.ErrMethod, api.ErrTarget, api.ErrVersion, api.ErrField, api.ErrLength, api.ErrMany, api.ErrBody)
}

// P15.3, held against the slow way.
func TestParseResponseAgainstTheSlowWay(t *testing.T) {
	r := rand.New(rand.NewSource(153))
	counts := map[api.Errno]int{}
	for range 20000 {
		raw := drawnResponseText(r)
		want, errno, place := slowParseResponse(raw)
		p, e, at := http.ParseResponse(raw)
		if !sameResponse(p, want) || e != errno || at != place {
			t.Fatalf("ParseResponse(%q): %v %d %d, not %v %d %d", raw, p, e, at, want, errno, place)
		}
		counts[e]++
	}
	drewAll(t, counts, 20, api.ErrLong, api.ErrVersion, api.ErrStatus, api.ErrField, api.ErrLength, api.ErrMany, api.ErrBody)
}

// P15.2, held against the slow way.
func TestPrintRequestAgainstTheSlowWay(t *testing.T) {
	r := rand.New(rand.NewSource(152))
	counts := map[api.Errno]int{}
	for range 12000 {
		q := api.Request{Method: drawnMethod(r), Target: drawnTarget(r), Fields: drawnFields(r), Body: drawnBody(r)}
		want, errno := slowPrintRequest(q)
		s, e := http.PrintRequest(q)
		if s != want || e != errno {
			t.Fatalf("PrintRequest(%q): %q %d, not %q %d", q, s, e, want, errno)
		}
		counts[e]++
	}
	drewAll(t, counts, 20, api.ErrMethod, api.ErrTarget, api.ErrMany, api.ErrField, api.ErrLong)
}

// P15.4, held against the slow way.
func TestPrintResponseAgainstTheSlowWay(t *testing.T) {
	r := rand.New(rand.NewSource(154))
	counts := map[api.Errno]int{}
	for range 12000 {
		p := api.Response{Status: drawnStatus(r), Fields: drawnFields(r), Body: drawnBody(r)}
		want, errno := slowPrintResponse(p)
		s, e := http.PrintResponse(p)
		if s != want || e != errno {
			t.Fatalf("PrintResponse(%v): %q %d, not %q %d", p, s, e, want, errno)
		}
		counts[e]++
	}
	drewAll(t, counts, 20, api.ErrStatus, api.ErrMany, api.ErrField, api.ErrLong)
}
