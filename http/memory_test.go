package http_test

import (
	"cmp"
	"slices"
	"strings"
	"testing"
	"unsafe"

	"wicket/api"
	"wicket/http"
)

// span is a piece of memory, from low up to high.
type span struct{ low, high uintptr }

func spans(texts ...string) []span {
	var l []span
	for _, s := range texts {
		low := uintptr(unsafe.Pointer(unsafe.StringData(s)))
		l = append(l, span{low, low + uintptr(len(s))})
	}
	return l
}

// spansOf is the memory of a list and of its texts, spare room too.
func spansOf(fields []api.Pair) []span {
	low := uintptr(unsafe.Pointer(unsafe.SliceData(fields)))
	l := []span{{low, low + uintptr(cap(fields))*unsafe.Sizeof(api.Pair{})}}
	for _, p := range fields {
		l = append(l, spans(p.Name, p.Value)...)
	}
	return l
}

func spansOfRequest(q api.Request) []span {
	return append(spansOf(q.Fields), spans(q.Method, q.Target, q.Body)...)
}

func spansOfResponse(p api.Response) []span {
	return append(spansOf(p.Fields), spans(p.Body)...)
}

// apart: do no two of the spans share a byte?
func apart(groups ...[]span) bool {
	all := slices.Concat(groups...)
	all = slices.DeleteFunc(all, func(s span) bool { return s.low == s.high })
	slices.SortFunc(all, func(a, b span) int { return cmp.Compare(a.low, b.low) })
	for i := 1; i < len(all); i++ {
		if all[i].low < all[i-1].high {
			return false
		}
	}
	return true
}

// own is a text over memory of its own, which may be written into.
func own(s string) (string, []byte) {
	p := []byte(s)
	return unsafe.String(unsafe.SliceData(p), len(p)), p
}

func scribble(p []byte) {
	for i := range p {
		p[i] ^= 0xff
	}
}

// roomy is some fields over memory of their own, with spare room with something in it.
func roomy(texts ...string) []api.Pair {
	var l []api.Pair
	for _, p := range pairs(texts...) {
		l = append(l, api.Pair{Name: strings.Clone(p.Name), Value: strings.Clone(p.Value)})
	}
	return append(l, pairs("spare", "room", "content-length", "9")...)[:len(l)]
}

// Rule 3: a request that is read shares no memory with the text, with another, or within itself.
func TestReadRequestIsNewMemory(t *testing.T) {
	said := "P / HTTP/1.1\r\nA: 1\r\nhost: a\r\nHOST: a\r\ne:\r\ncontent-length: 1\r\n\r\nx"
	want := api.Request{Method: "P", Target: "/", Fields: pairs("a", "1", "host", "a", "host", "a", "e", ""), Body: "x"}
	raw, bytes := own(said)
	first, _, _ := http.ParseRequest(raw)
	second, _, _ := http.ParseRequest(raw)
	if raw != said {
		t.Error("the text has changed")
	}
	if !apart(spans(raw), spansOfRequest(first), spansOfRequest(second)) {
		t.Error("what is answered shares memory")
	}
	scribble(bytes)
	clear(first.Fields[:cap(first.Fields)])
	if !sameRequest(second, want) {
		t.Errorf("what was answered has changed: %q", second)
	}
	isRead(t, said, want)
}

// Rule 3: likewise a response.
func TestReadResponseIsNewMemory(t *testing.T) {
	said := "HTTP/1.1 200 OK\r\nA: 1\r\nhost: a\r\nHOST: a\r\ne:\r\ncontent-length: 1\r\n\r\nx"
	want := api.Response{Status: 200, Fields: pairs("a", "1", "host", "a", "host", "a", "e", ""), Body: "x"}
	raw, bytes := own(said)
	first, _, _ := http.ParseResponse(raw)
	second, _, _ := http.ParseResponse(raw)
	if raw != said {
		t.Error("the text has changed")
	}
	if !apart(spans(raw), spansOfResponse(first), spansOfResponse(second)) {
		t.Error("what is answered shares memory")
	}
	scribble(bytes)
	clear(first.Fields[:cap(first.Fields)])
	if !sameResponse(second, want) {
		t.Errorf("what was answered has changed: %v", second)
	}
	isReadAnswer(t, said, want)
}

// Rule 3: what is printed changes nothing, sees no spare room and is new memory.
func TestPrintedIsNewMemory(t *testing.T) {
	fields := roomy("Host", "a", "x", "")
	before := slices.Clone(fields[:cap(fields)])
	method, target, body := strings.Clone("GET"), strings.Clone("/a"), strings.Clone("b")
	q := api.Request{Method: method, Target: target, Fields: fields, Body: body}
	p := api.Response{Status: 404, Fields: fields, Body: body}
	wantQ := "GET /a HTTP/1.1\r\nhost: a\r\nx:\r\ncontent-length: 1\r\n\r\nb"
	wantP := "HTTP/1.1 404 Not Found\r\nhost: a\r\nx:\r\ncontent-length: 1\r\n\r\nb"
	isPrinted(t, q, wantQ)
	isPrintedAnswer(t, p, wantP)
	s1, _ := http.PrintRequest(q)
	s2, _ := http.PrintRequest(q)
	s3, _ := http.PrintResponse(p)
	s4, _ := http.PrintResponse(p)
	if !apart(spans(s1, s2, s3, s4), spansOfRequest(q)) {
		t.Error("what is answered shares memory")
	}
	if !slices.Equal(fields[:cap(fields)], before) || method != "GET" || target != "/a" || body != "b" {
		t.Error("what was handed in has changed")
	}
	clear(fields[:cap(fields)])
	if s1 != wantQ || s2 != wantQ || s3 != wantP || s4 != wantP {
		t.Error("what was answered has changed")
	}
}

// Rule 3: texts that are found and parted are new memory, those of one byte too.
func TestLooksAreNewMemory(t *testing.T) {
	fields := roomy("Host", "value", "x", "1")
	before := slices.Clone(fields[:cap(fields)])
	v1, _, _ := http.Field(fields, "host")
	v2, _, _ := http.Field(fields, "host")
	v3, _, _ := http.Field(fields, "X")
	v4, _, _ := http.Field(fields, "X")
	if _, there, _ := http.Field(fields, "spare"); there {
		t.Error("the spare room was seen")
	}
	if !slices.Equal(fields[:cap(fields)], before) {
		t.Error("what was handed in has changed")
	}
	value, bytes := own("application/json")
	m1, m2, m3, m4 := http.Media(value), http.Media(value), http.Media("a"), http.Media("a")
	target, more := own("/path?query")
	p1, q1 := http.Split(target)
	p2, q2 := http.Split(target)
	whole, _ := http.Split(target[:5])
	p3, q3 := http.Split("/?q")
	p4, q4 := http.Split("/?q")
	r1, r2, r3, r4 := http.Reason(200), http.Reason(200), http.Reason(404), http.Reason(404)
	answers := spans(v1, v2, v3, v4, m1, m2, m3, m4, p1, q1, p2, q2, whole, p3, q3, p4, q4, r1, r2, r3, r4)
	if !apart(answers, spansOf(fields), spans(value, target)) {
		t.Error("what is answered shares memory")
	}
	scribble(bytes)
	scribble(more)
	clear(fields)
	if v1 != "value" || v3 != "1" || m1 != "application/json" || p1 != "/path" || q1 != "query" || whole != "/path" {
		t.Error("what was answered has changed")
	}
}

// Rule 3: nil and an empty list are the same.
func TestNilIsEmpty(t *testing.T) {
	for _, l := range [][]api.Pair{nil, {}, pairs("spare", "room")[:0]} {
		printsRest(t, l, "", "\r\n")
		finds(t, l, "spare", "", false, api.OK)
	}
}
