package http_test

import (
	"math/rand"
	"slices"
	"strings"
	"testing"

	"wicket/api"
	"wicket/http"
)

// pairs makes a list of names and values in turn.
func pairs(texts ...string) []api.Pair {
	var l []api.Pair
	for i := 0; i < len(texts); i += 2 {
		l = append(l, api.Pair{Name: texts[i], Value: texts[i+1]})
	}
	return l
}

func sameRequest(a, b api.Request) bool {
	return a.Method == b.Method && a.Target == b.Target && slices.Equal(a.Fields, b.Fields) && a.Body == b.Body
}

func sameResponse(a, b api.Response) bool {
	return a.Status == b.Status && slices.Equal(a.Fields, b.Fields) && a.Body == b.Body
}

func isRead(t *testing.T, raw string, want api.Request) {
	t.Helper()
	if q, e, at := http.ParseRequest(raw); e != api.OK || at != 0 || !sameRequest(q, want) {
		t.Errorf("ParseRequest(%.80q): %.200q %d %d, not %.200q", raw, q, e, at, want)
	}
}

func isRefused(t *testing.T, raw string, errno api.Errno, place int) {
	t.Helper()
	q, e, at := http.ParseRequest(raw)
	if e != errno || at != place {
		t.Errorf("ParseRequest(%.80q): %d %d, not %d %d", raw, e, at, errno, place)
	}
	if q.Fields != nil || !sameRequest(q, api.Request{}) {
		t.Errorf("ParseRequest(%.80q): %.200q beside an error", raw, q)
	}
}

func isPrinted(t *testing.T, q api.Request, want string) {
	t.Helper()
	if s, e := http.PrintRequest(q); s != want || e != api.OK {
		t.Errorf("PrintRequest(%.80q): %.200q %d, not %.200q", q, s, e, want)
	}
}

func isNotPrinted(t *testing.T, q api.Request, errno api.Errno) {
	t.Helper()
	if s, e := http.PrintRequest(q); s != "" || e != errno {
		t.Errorf("PrintRequest(%.80q): %.200q %d, not %d", q, s, e, errno)
	}
}

func isReadAnswer(t *testing.T, raw string, want api.Response) {
	t.Helper()
	if p, e, at := http.ParseResponse(raw); e != api.OK || at != 0 || !sameResponse(p, want) {
		t.Errorf("ParseResponse(%.80q): %.200v %d %d, not %.200v", raw, p, e, at, want)
	}
}

func isRefusedAnswer(t *testing.T, raw string, errno api.Errno, place int) {
	t.Helper()
	p, e, at := http.ParseResponse(raw)
	if e != errno || at != place {
		t.Errorf("ParseResponse(%.80q): %d %d, not %d %d", raw, e, at, errno, place)
	}
	if p.Fields != nil || !sameResponse(p, api.Response{}) {
		t.Errorf("ParseResponse(%.80q): %.200v beside an error", raw, p)
	}
}

func isPrintedAnswer(t *testing.T, p api.Response, want string) {
	t.Helper()
	if s, e := http.PrintResponse(p); s != want || e != api.OK {
		t.Errorf("PrintResponse(%.80v): %.200q %d, not %.200q", p, s, e, want)
	}
}

func isNotPrintedAnswer(t *testing.T, p api.Response, errno api.Errno) {
	t.Helper()
	if s, e := http.PrintResponse(p); s != "" || e != errno {
		t.Errorf("PrintResponse(%.80v): %.200q %d, not %d", p, s, e, errno)
	}
}

// The first lines that most tests use: what stands behind them is the same for requests and responses.
const (
	ask    = "GET / HTTP/1.1\r\n"
	answer = "HTTP/1.1 200 OK\r\n"
)

// saysRest asks that what stands behind a first line is read as fields and a body, in a request and in a response.
func saysRest(t *testing.T, rest string, fields []api.Pair, body string) {
	t.Helper()
	isRead(t, ask+rest, api.Request{Method: "GET", Target: "/", Fields: fields, Body: body})
	isReadAnswer(t, answer+rest, api.Response{Status: 200, Fields: fields, Body: body})
}

// refusesRest asks for an error behind a first line, at a place counted from its end.
func refusesRest(t *testing.T, rest string, errno api.Errno, place int) {
	t.Helper()
	isRefused(t, ask+rest, errno, len(ask)+place)
	isRefusedAnswer(t, answer+rest, errno, len(answer)+place)
}

// printsRest asks for what is printed behind a first line, of a request and of a response.
func printsRest(t *testing.T, fields []api.Pair, body, rest string) {
	t.Helper()
	isPrinted(t, api.Request{Method: "GET", Target: "/", Fields: fields, Body: body}, ask+rest)
	isPrintedAnswer(t, api.Response{Status: 200, Fields: fields, Body: body}, answer+rest)
}

func printsNoRest(t *testing.T, fields []api.Pair, body string, errno api.Errno) {
	t.Helper()
	isNotPrinted(t, api.Request{Method: "GET", Target: "/", Fields: fields, Body: body}, errno)
	isNotPrintedAnswer(t, api.Response{Status: 200, Fields: fields, Body: body}, errno)
}

// drawnOf is count bytes of an alphabet.
func drawnOf(r *rand.Rand, alphabet string, count int) string {
	var out strings.Builder
	for range count {
		out.WriteByte(alphabet[r.Intn(len(alphabet))])
	}
	return out.String()
}

func oneOf(r *rand.Rand, texts ...string) string { return texts[r.Intn(len(texts))] }

const (
	smalls   = "abcdefghijklmnopqrstuvwxyz"
	capitals = "ABCDEFGHIJKLMNOPQRSTUVWXYZ"
	digits   = "0123456789"
)

// bytesFrom is each byte from low to high.
func bytesFrom(low, high int) string {
	var l []byte
	for c := low; c <= high; c++ {
		l = append(l, byte(c))
	}
	return string(l)
}
