package http_test

import (
	"math"
	"strconv"
	"strings"
	"testing"

	"wicket/api"
	"wicket/http"
)

// P15.3 and P15.4: the chapter's example 3.
func TestResponseExamples(t *testing.T) {
	p := api.Response{Status: 200, Fields: pairs("cache-control", "no-store"), Body: "{}"}
	isPrintedAnswer(t, p, "HTTP/1.1 200 OK\r\ncache-control: no-store\r\ncontent-length: 2\r\n\r\n{}")
	isReadAnswer(t, "HTTP/1.1 200 OK\r\ncache-control: no-store\r\ncontent-length: 2\r\n\r\n{}", p)
	isPrintedAnswer(t, api.Response{Status: 299}, "HTTP/1.1 299 \r\n\r\n")
	isReadAnswer(t, "HTTP/1.1 299 \r\n\r\n", api.Response{Status: 299})
	isRefusedAnswer(t, "HTTP/1.1 200 Fine\r\n\r\n", api.ErrStatus, 9)
}

// reasons are those of P15.7.
func reasons() map[int]string {
	return map[int]string{
		200: "OK", 204: "No Content", 400: "Bad Request", 401: "Unauthorized", 403: "Forbidden", 404: "Not Found",
		405: "Method Not Allowed", 413: "Content Too Large", 415: "Unsupported Media Type", 429: "Too Many Requests",
		500: "Internal Server Error", 503: "Service Unavailable",
	}
}

// P15.7: twelve numbers have a reason, and no other.
func TestReasons(t *testing.T) {
	for status := -1000; status <= 2000; status++ {
		if got, want := http.Reason(status), reasons()[status]; got != want {
			t.Errorf("Reason(%d): %q, not %q", status, got, want)
		}
	}
	for _, status := range []int{math.MinInt, math.MinInt + 200, math.MaxInt, 200 + 1<<8, 200 + 1<<16, 200 + 1<<32} {
		if got := http.Reason(status); got != "" {
			t.Errorf("Reason(%d): %q", status, got)
		}
	}
}

// P15.3 and P15.4: a status is a number from 100 to 599, and its own reason stands behind it, or none.
func TestStatuses(t *testing.T) {
	for status := -2; status <= 1200; status++ {
		p := api.Response{Status: status, Body: "x"}
		number := strconv.Itoa(status)
		raw := "HTTP/1.1 " + number + " " + reasons()[status] + "\r\ncontent-length: 1\r\n\r\nx"
		if status < 100 || status > 599 {
			isNotPrintedAnswer(t, p, api.ErrStatus)
			isRefusedAnswer(t, raw, api.ErrStatus, 9)
			continue
		}
		isPrintedAnswer(t, p, raw)
		isReadAnswer(t, raw, p)
		for _, other := range []int{200, 404, 599} {
			if reasons()[other] != reasons()[status] {
				isRefusedAnswer(t, "HTTP/1.1 "+number+" "+reasons()[other]+"\r\n\r\n", api.ErrStatus, 9)
			}
		}
	}
	for _, status := range []int{math.MinInt, math.MaxInt, 200 + 1<<32, -200, 2000} {
		isNotPrintedAnswer(t, api.Response{Status: status}, api.ErrStatus)
	}
}

// P15.3: a response begins with HTTP/1.1 and a blank.
func TestResponseVersions(t *testing.T) {
	for _, s := range []string{"", "H", "HTTP/1.1", "HTTP/1.0 200 OK\r\n\r\n", "HTTP/2 200 OK\r\n\r\n", "http/1.1 200 OK\r\n\r\n", " HTTP/1.1 200 OK\r\n\r\n", "HTTP/1.1\t200 OK\r\n\r\n", "HTTP/1.1\r\n\r\n", "HTTP/1.10 200 OK\r\n\r\n", "200 OK\r\n\r\n", "GET / HTTP/1.1\r\n\r\n"} {
		isRefusedAnswer(t, s, api.ErrVersion, 0)
	}
}

// P15.3: behind it stand three digits, a blank, the reason and a line's end.
func TestStatusLines(t *testing.T) {
	for _, s := range []string{
		"", "2", "20", "200", "200 ", "200 O", "200 OK", "200 OK\r", "200 OK\n", "200 OK\n\r\n", "200 OK \r\n\r\n", "200 OK\r\r\n\r\n", "200  OK\r\n\r\n", " 200 OK\r\n\r\n",
		"200OK\r\n\r\n", "200\tOK\r\n\r\n", "200\r\n\r\n", "200 \r\n\r\n", "200 ok\r\n\r\n", "200 OKAY\r\n\r\n", "299\r\n\r\n", "299 X\r\n\r\n", "299  \r\n\r\n", "299 OK\r\n\r\n",
		"+20 OK\r\n\r\n", "-20 OK\r\n\r\n", "+99 \r\n\r\n", "+299 \r\n\r\n", "0200 OK\r\n\r\n", "0299 \r\n\r\n", "2000 \r\n\r\n", "099 \r\n\r\n", "99 \r\n\r\n", "20 \r\n\r\n", "2x0 OK\r\n\r\n", "20: \r\n\r\n", "20/ \r\n\r\n", "0x1 \r\n\r\n", "1e2 \r\n\r\n", "1_0 \r\n\r\n",
		"99999999999999999999999 \r\n\r\n", "\r\n\r\n", "OK\r\n\r\n",
	} {
		isRefusedAnswer(t, "HTTP/1.1 "+s, api.ErrStatus, 9)
	}
	isRefusedAnswer(t, "HTTP/1.1 200 OK\r\n", api.ErrField, 17)
	isRefusedAnswer(t, "HTTP/1.1 299 \r\n", api.ErrField, 15)
	isRefusedAnswer(t, "HTTP/1.1 415 Unsupported Media Type\r\nx", api.ErrField, 37)
}

// P15.3: of several errors the first from the left is told.
func TestResponseFirstFault(t *testing.T) {
	isRefusedAnswer(t, "HTTP/1.0 99 X\r\nA b", api.ErrVersion, 0)
	isRefusedAnswer(t, "HTTP/1.1 99 X\r\nA b", api.ErrStatus, 9)
	isRefusedAnswer(t, "HTTP/1.1 404 Not Found\r\nA b\r\ncontent-length: x\r\n\r\n", api.ErrField, 24)
	isRefusedAnswer(t, "HTTP/1.1 404 Not Found\r\ncontent-length: x\r\nA b\r\n\r\n", api.ErrLength, 24)
	isRefusedAnswer(t, "HTTP/1.1 404 Not Found\r\ncontent-length: 1\r\n\r\n", api.ErrBody, 45)
}

// P15.4: the first of ErrStatus, ErrMany, ErrField, ErrLong is told.
func TestPrintResponseFirstFault(t *testing.T) {
	long := strings.Repeat("x", api.MaxHttp)
	many := make([]api.Pair, api.MaxFields+1)
	isNotPrintedAnswer(t, api.Response{}, api.ErrStatus)
	isNotPrintedAnswer(t, api.Response{Status: 600, Fields: many, Body: long}, api.ErrStatus)
	isNotPrintedAnswer(t, api.Response{Status: 599, Fields: many, Body: long}, api.ErrMany)
	isNotPrintedAnswer(t, api.Response{Status: 100, Fields: many[1:], Body: long}, api.ErrField)
	isNotPrintedAnswer(t, api.Response{Status: 100, Body: long}, api.ErrLong)
}

// P15.3 and P15.4: MaxHttp bytes are taken and printed, one more is not, whatever they are.
func TestLongResponses(t *testing.T) {
	head := "HTTP/1.1 429 Too Many Requests\r\nretry-after: 5\r\ncontent-length: 32695\r\n\r\n"
	body := strings.Repeat("\xff", api.MaxHttp-len(head))
	if len(body) != 32695 {
		t.Fatalf("%d bytes of body", len(body))
	}
	p := api.Response{Status: 429, Fields: pairs("Retry-After", "5"), Body: body}
	isPrintedAnswer(t, p, head+body)
	p.Fields = pairs("retry-after", "5")
	isReadAnswer(t, head+body, p)
	p.Body += "x"
	isNotPrintedAnswer(t, p, api.ErrLong)
	isRefusedAnswer(t, strings.Replace(head, "95", "96", 1)+p.Body, api.ErrLong, 0)
	isRefusedAnswer(t, strings.Repeat("x", api.MaxHttp+1), api.ErrLong, 0)
	isRefusedAnswer(t, strings.Repeat("x", api.MaxHttp), api.ErrVersion, 0)
}
