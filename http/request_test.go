package http_test

import (
	"strings"
	"testing"

	"wicket/api"
)

// P15.1 and P15.2: the chapter's examples 1 and 2.
func TestRequestExamples(t *testing.T) {
	q := api.Request{Method: "POST", Target: "/token", Fields: pairs("host", "a"), Body: "a=1"}
	isRead(t, "POST /token HTTP/1.1\r\nHost: a\r\nContent-Length: 3\r\n\r\na=1", q)
	isPrinted(t, q, "POST /token HTTP/1.1\r\nhost: a\r\ncontent-length: 3\r\n\r\na=1")
	isRead(t, "GET / HTTP/1.1\r\n\r\n", api.Request{Method: "GET", Target: "/"})
	isRefused(t, "get / HTTP/1.1\r\n\r\n", api.ErrMethod, 0)
	isRefused(t, "GET x HTTP/1.1\r\n\r\n", api.ErrTarget, 4)
	isRefused(t, "GET / HTTP/1.0\r\n\r\n", api.ErrVersion, 6)
	isRefused(t, "GET / HTTP/1.1\r\nA b\r\n\r\n", api.ErrField, 16)
	isRefused(t, "GET / HTTP/1.1\r\n", api.ErrField, 16)
	isRefused(t, "GET / HTTP/1.1\r\n\r\nx", api.ErrBody, 18)
}

const behind = " / HTTP/1.1\r\n\r\n"

// P15.1 and P15.2: a method is 1 to 16 letters A to Z, and a blank must stand behind it.
func TestMethods(t *testing.T) {
	for _, m := range []string{"A", "Z", "GET", "OPTIONS", strings.Repeat("M", 16), capitals[:16], capitals[10:]} {
		isRead(t, m+behind, api.Request{Method: m, Target: "/"})
		isPrinted(t, api.Request{Method: m, Target: "/"}, m+behind)
	}
	for _, m := range []string{"", "get", "Get", "GEt", "gET", "G@T", "G[T", "GE T", " GET", "GET ", "\tGET", "GET\t", "G1", "G-T", "\r\nGET", "Ä", "GE\x80", "G\x00", strings.Repeat("M", 17), strings.Repeat("M", 30000)} {
		isNotPrinted(t, api.Request{Method: m, Target: "/"}, api.ErrMethod)
	}
	for _, raw := range []string{"", "G", "GET", "GET\t/ HTTP/1.1\r\n\r\n", "GET\r\n\r\n", "get / HTTP/1.1\r\n\r\n", "GeT / HTTP/1.1\r\n\r\n", " / HTTP/1.1\r\n\r\n", "\r\nGET / HTTP/1.1\r\n\r\n", "G@ / HTTP/1.1\r\n\r\n", "G[ / HTTP/1.1\r\n\r\n", strings.Repeat("M", 17) + behind, strings.Repeat("M", 16), strings.Repeat("M", api.MaxHttp)} {
		isRefused(t, raw, api.ErrMethod, 0)
	}
	isRefused(t, "GET ", api.ErrTarget, 4)
	isRefused(t, strings.Repeat("M", 16)+" ", api.ErrTarget, 17)
}

// P15.1 and P15.2: a target has bytes from 33 to 126, the first of them /.
func TestTargets(t *testing.T) {
	for _, s := range []string{"/", "//", "/!", "/~", "/a?b=c&d", "/a/b", "/" + bytesFrom(33, 126), "/" + strings.Repeat("t", api.MaxTarget-1)} {
		isRead(t, "GET "+s+" HTTP/1.1\r\n\r\n", api.Request{Method: "GET", Target: s})
		isPrinted(t, api.Request{Method: "GET", Target: s}, "GET "+s+" HTTP/1.1\r\n\r\n")
	}
	for _, s := range []string{"", "a", "a/", "*", "?", "https://a/", "/\x7f", "/\x1f", "/\x00", "/\t", "/\xff", "/ä", "/a\r\n", "/" + strings.Repeat("t", api.MaxTarget), "/" + strings.Repeat("t", 2*api.MaxTarget), strings.Repeat("t", 1<<20)} {
		isNotPrinted(t, api.Request{Method: "GET", Target: s}, api.ErrTarget)
		if len(s) < api.MaxHttp/2 {
			isRefused(t, "GET "+s+" HTTP/1.1\r\n\r\n", api.ErrTarget, 4)
			isRefused(t, "DELETE "+s+" HTTP/1.1\r\n\r\n", api.ErrTarget, 7)
			isRefused(t, "DELETE "+s, api.ErrTarget, 7)
		}
	}
	for _, s := range []string{"/ ", " /", " ", "/a b"} {
		isNotPrinted(t, api.Request{Method: "GET", Target: s}, api.ErrTarget)
	}
	isRefused(t, "GET  / HTTP/1.1\r\n\r\n", api.ErrTarget, 4)
	isRefused(t, "GET /", api.ErrTarget, 4)
	isRefused(t, "GET /\r\n\r\n", api.ErrTarget, 4)
	isRefused(t, "GET /\tHTTP/1.1\r\n\r\n", api.ErrTarget, 4)
	isRefused(t, "GET /"+strings.Repeat("t", api.MaxTarget-1)+"\t", api.ErrTarget, 4)
}

// P15.1: behind the target's blank stands HTTP/1.1 and a line's end.
func TestVersions(t *testing.T) {
	for _, s := range []string{"", "\r\n", "\r\n\r\n", "H", "HTTP/1.", "HTTP/1.1", "HTTP/1.1\r", "HTTP/1.1\n", "HTTP/1.1\r\r\n\r\n", "HTTP/1.1\n\r\n\r\n", "HTTP/1.1 \r\n\r\n", " HTTP/1.1\r\n\r\n", "http/1.1\r\n\r\n", "HTTP/1.0\r\n\r\n", "HTTP/1.2\r\n\r\n", "HTTP/2\r\n\r\n", "HTTP/1.10\r\n\r\n", "HTTP/11\r\n\r\n", "a HTTP/1.1\r\n\r\n"} {
		isRefused(t, "GET / "+s, api.ErrVersion, 6)
		isRefused(t, "POST /token "+s, api.ErrVersion, 12)
	}
	isRefused(t, "GET / HTTP/1.1\r\n\r", api.ErrField, 16)
}

// P15.1: of several errors the first from the left is told.
func TestRequestFirstFault(t *testing.T) {
	isRefused(t, "get x HTTP/1.0\r\nA b\r\n", api.ErrMethod, 0)
	isRefused(t, "GET x HTTP/1.0\r\nA b\r\n", api.ErrTarget, 4)
	isRefused(t, "GET /x HTTP/1.0\r\nA b\r\n", api.ErrVersion, 7)
	isRefused(t, "GET /x HTTP/1.1\r\nA b\r\ncontent-length: x\r\n\r\n", api.ErrField, 17)
	isRefused(t, "GET /x HTTP/1.1\r\ncontent-length: x\r\nA b\r\n\r\n", api.ErrLength, 17)
	isRefused(t, "GET /x HTTP/1.1\r\ncontent-length: 9\r\nA b\r\n\r\n", api.ErrField, 36)
	isRefused(t, "GET /x HTTP/1.1\r\ncontent-length: 9\r\nA:b\r\n\r\n", api.ErrBody, 43)
}

// P15.2: the first of ErrMethod, ErrTarget, ErrMany, ErrField, ErrLong is told.
func TestPrintRequestFirstFault(t *testing.T) {
	long := strings.Repeat("x", api.MaxHttp)
	many := make([]api.Pair, api.MaxFields+1)
	isNotPrinted(t, api.Request{Target: "x", Fields: many, Body: long}, api.ErrMethod)
	isNotPrinted(t, api.Request{}, api.ErrMethod)
	isNotPrinted(t, api.Request{Method: "A", Target: "x", Fields: many, Body: long}, api.ErrTarget)
	isNotPrinted(t, api.Request{Method: "A"}, api.ErrTarget)
	isNotPrinted(t, api.Request{Method: "A", Target: "/", Fields: many, Body: long}, api.ErrMany)
	isNotPrinted(t, api.Request{Method: "A", Target: "/", Fields: many[1:], Body: long}, api.ErrField)
	isNotPrinted(t, api.Request{Method: "A", Target: "/", Body: long}, api.ErrLong)
}

// P15.1 and P15.2: MaxHttp bytes are taken and printed, one more is not, whatever they are.
func TestLongRequests(t *testing.T) {
	head := "POST / HTTP/1.1\r\ncontent-length: 32726\r\n\r\n"
	body := strings.Repeat("\x00", api.MaxHttp-len(head))
	if len(body) != 32726 {
		t.Fatalf("%d bytes of body", len(body))
	}
	q := api.Request{Method: "POST", Target: "/", Body: body}
	isRead(t, head+body, q)
	isPrinted(t, q, head+body)
	q.Body += "x"
	isNotPrinted(t, q, api.ErrLong)
	isRefused(t, strings.Replace(head, "26", "27", 1)+q.Body, api.ErrLong, 0)
	isRefused(t, head+q.Body, api.ErrLong, 0)
	isRefused(t, strings.Repeat("x", api.MaxHttp+1), api.ErrLong, 0)
	isRefused(t, strings.Repeat("x", api.MaxHttp), api.ErrMethod, 0)
	isRefused(t, strings.Repeat("x", 1<<22), api.ErrLong, 0)
	q = api.Request{Method: "A", Target: "/", Fields: pairs("a", strings.Repeat("v", 4096), "a", strings.Repeat("v", 4096)), Body: strings.Repeat("b", 1<<24)}
	isNotPrinted(t, q, api.ErrLong)
}
