package http_test

import (
	"math/rand"
	"slices"
	"strings"
	"testing"

	"wicket/api"
	"wicket/http"
)

// drawnRequests are valid ones, among them some with as many fields and as long as may be.
func drawnRequests(r *rand.Rand, count int) []api.Request {
	var l []api.Request
	for len(l) < count {
		q := api.Request{Method: drawnMethod(r), Target: drawnTarget(r), Fields: drawnFields(r), Body: drawnBody(r)}
		if _, e := slowPrintRequest(q); e == api.OK {
			l = append(l, q)
		}
	}
	return l
}

func drawnResponses(r *rand.Rand, count int) []api.Response {
	var l []api.Response
	for len(l) < count {
		p := api.Response{Status: drawnStatus(r), Fields: drawnFields(r), Body: drawnBody(r)}
		if _, e := slowPrintResponse(p); e == api.OK {
			l = append(l, p)
		}
	}
	return l
}

func withSmallNames(l []api.Pair) []api.Pair {
	var out []api.Pair
	for _, p := range l {
		out = append(out, api.Pair{Name: strings.ToLower(p.Name), Value: p.Value})
	}
	return out
}

// P15.8: what is printed of a valid request reads back with its fields' names small.
func TestPrintedRequestsReadBack(t *testing.T) {
	for _, q := range drawnRequests(rand.New(rand.NewSource(1581)), 1000) {
		s, e := http.PrintRequest(q)
		if e != api.OK {
			t.Fatalf("PrintRequest(%.300q): %d", q, e)
		}
		q.Fields = withSmallNames(q.Fields)
		isRead(t, s, q)
	}
}

// P15.8: likewise of responses.
func TestPrintedResponsesReadBack(t *testing.T) {
	for _, p := range drawnResponses(rand.New(rand.NewSource(1582)), 1000) {
		s, e := http.PrintResponse(p)
		if e != api.OK {
			t.Fatalf("PrintResponse(%.300v): %d", p, e)
		}
		p.Fields = withSmallNames(p.Fields)
		isReadAnswer(t, s, p)
	}
}

// P15.8: what is taken, printed again, is read as the same, and printed as the same from then on.
func TestReadRequestsPrintAgain(t *testing.T) {
	r := rand.New(rand.NewSource(1583))
	for taken := 0; taken < 1000; {
		q, e, _ := http.ParseRequest(drawnRequestText(r))
		s, err := http.PrintRequest(q)
		if e != api.OK || err != api.OK {
			continue
		}
		taken++
		isRead(t, s, q)
		isPrinted(t, q, s)
	}
}

// P15.8: likewise of responses.
func TestReadResponsesPrintAgain(t *testing.T) {
	r := rand.New(rand.NewSource(1584))
	for taken := 0; taken < 1000; {
		p, e, _ := http.ParseResponse(drawnResponseText(r))
		s, err := http.PrintResponse(p)
		if e != api.OK || err != api.OK {
			continue
		}
		taken++
		isReadAnswer(t, s, p)
		isPrintedAnswer(t, p, s)
	}
}

// P15.8: all that is taken is printed again, but what would be too long with the blanks that are put in.
func TestWhatIsTakenMayBePrinted(t *testing.T) {
	r := rand.New(rand.NewSource(1585))
	for range 4000 {
		if q, e, _ := http.ParseRequest(drawnRequestText(r)); e == api.OK {
			if _, err := http.PrintRequest(q); err != api.OK && err != api.ErrLong {
				t.Fatalf("PrintRequest(%.300q): %d", q, err)
			}
		}
	}
	head := "GET / HTTP/1.1\r\n" + strings.Repeat("a:b\r\n", 64) + "content-length:32408\r\n\r\n"
	q, e, _ := http.ParseRequest(head + strings.Repeat("x", api.MaxHttp-len(head)))
	if e != api.OK || len(q.Fields) != api.MaxFields {
		t.Fatalf("ParseRequest: %d, %d fields", e, len(q.Fields))
	}
	isNotPrinted(t, q, api.ErrLong)
}

// cuts are the places at which a text is cut: all of a short one, of a long one those at its ends and some in between.
func cuts(s string) []int {
	var l []int
	for at := 0; at < len(s); at++ {
		if len(s) < 300 || at < 100 || at > len(s)-100 || at%997 == 0 {
			l = append(l, at)
		}
	}
	return l
}

// furthers are texts that may go on behind a message.
func furthers(r *rand.Rand, s string) []string {
	return []string{"\r", "\n", "\r\n", "\r\n\r\n", " ", "\x00", "a: b\r\n\r\n", s, s[:1], drawnOf(r, allBytes, 1+r.Intn(9))}
}

// P15.9: no proper beginning of a printed request is read, and nothing that goes on behind it.
func TestNoBeginningOfRequests(t *testing.T) {
	r := rand.New(rand.NewSource(1591))
	for _, q := range drawnRequests(r, 300) {
		s, _ := http.PrintRequest(q)
		for _, at := range cuts(s) {
			if _, e, _ := http.ParseRequest(s[:at]); e == api.OK {
				t.Fatalf("read: %.300q, %d bytes of %d", s, at, len(s))
			}
		}
		for _, more := range furthers(r, s) {
			if _, e, _ := http.ParseRequest(s + more); e == api.OK {
				t.Fatalf("read: %.300q with %.300q behind it", s, more)
			}
		}
	}
}

// P15.9: likewise of responses.
func TestNoBeginningOfResponses(t *testing.T) {
	r := rand.New(rand.NewSource(1592))
	for _, p := range drawnResponses(r, 300) {
		s, _ := http.PrintResponse(p)
		for _, at := range cuts(s) {
			if _, e, _ := http.ParseResponse(s[:at]); e == api.OK {
				t.Fatalf("read: %.300q, %d bytes of %d", s, at, len(s))
			}
		}
		for _, more := range furthers(r, s) {
			if _, e, _ := http.ParseResponse(s + more); e == api.OK {
				t.Fatalf("read: %.300q with %.300q behind it", s, more)
			}
		}
	}
}

// headLines are the lines of a printed message's head but that of its content-length.
func headLines(s string) []string {
	head, _, _ := strings.Cut(s, "\r\n\r\n")
	return slices.DeleteFunc(strings.Split(head, "\r\n"), func(line string) bool { return strings.HasPrefix(line, "content-length: ") })
}

// P15.10: requests that differ in their bodies alone have the same line and the same fields, printed and read.
func TestBodySaysNothingOfTheHead(t *testing.T) {
	r := rand.New(rand.NewSource(1510))
	for _, q := range drawnRequests(r, 1000) {
		other := q
		other.Body = oneOf(r, "", "x", "\r\n\r\n", "content-length: 5\r\n\r\n", drawnOf(r, allBytes, 20))
		s, _ := http.PrintRequest(q)
		o, err := http.PrintRequest(other)
		if err == api.ErrLong {
			continue
		}
		if !slices.Equal(headLines(s), headLines(o)) {
			t.Fatalf("%.300q and %.300q", s, o)
		}
		a, e, _ := http.ParseRequest(s)
		b, err, _ := http.ParseRequest(o)
		if e != api.OK || err != api.OK || b.Body != other.Body {
			t.Fatalf("%d %d", e, err)
		}
		b.Body = a.Body
		if !sameRequest(a, b) {
			t.Fatalf("%.300q and %.300q", a, b)
		}
	}
}
