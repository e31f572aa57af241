package http

import (
	"iter"
	"strconv"
	"strings"

	"wicket/api"
)

// The names by which a message says how long its body is: they are no fields of a Request or a Response.
const (
	lengthName = "content-length"
	codingName = "transfer-encoding"
)

// readRequestLine reads a request's first line; without an error, the place is the one behind it.
func readRequestLine(raw string) (method, target string, err api.Errno, at int) {
	method, there := word(raw, capital())
	if !there || !isMethod(method) {
		return "", "", api.ErrMethod, 0
	}
	at = len(method) + 1
	target, there = word(raw[at:], visible())
	if !there || !isTarget(target) {
		return "", "", api.ErrTarget, at
	}
	at += len(target) + 1
	if !strings.HasPrefix(raw[at:], version+lineEnd) {
		return "", "", api.ErrVersion, at
	}
	return method, target, api.OK, at + len(version+lineEnd)
}

// word is the longest run of bytes that may stand at the beginning of s, if a blank stands behind it.
func word(s string, may func(byte) bool) (string, bool) {
	n := run(s, may)
	return s[:n], strings.HasPrefix(s[n:], " ")
}

// readStatusLine reads a response's first line; without an error, the place is the one behind it. The line is held against what its number prints: so nothing else reads as that status.
func readStatusLine(raw string) (int, api.Errno, int) {
	text, begins := strings.CutPrefix(raw, version+" ")
	if !begins {
		return 0, api.ErrVersion, 0
	}
	at := len(raw) - len(text)
	status, _ := strconv.Atoi(text[:run(text, digit())])
	line := statusText(status) + lineEnd
	if !isStatus(status) || !strings.HasPrefix(text, line) {
		return 0, api.ErrStatus, at
	}
	return status, api.OK, at + len(line)
}

// readRest reads what stands behind the first line: the fields and the body.
func readRest(raw string, at int) ([]api.Pair, string, api.Errno, int) {
	h, err, at := readHead(raw, at)
	if err != api.OK {
		return nil, "", err, at
	}
	body := raw[at:]
	if len(body) != h.length {
		return nil, "", api.ErrBody, at
	}
	return h.fields, strings.Clone(body), api.OK, 0
}

// head is what the lines of a head have said so far.
type head struct {
	fields []api.Pair
	length int
	sized  bool // has a content-length been there?
}

// readHead reads the lines of fields; without an error, the place is the body's.
func readHead(raw string, at int) (head, api.Errno, int) {
	var h head
	for line, next := range lines(raw, at) {
		if line == "" {
			return h, api.OK, next
		}
		if err := h.add(line); err != api.OK {
			return head{}, err, at
		}
		at = next
	}
	return head{}, api.ErrField, at
}

// lines yields each line from a place on, without its end, and the place behind its end. What has no end is no line.
func lines(raw string, at int) iter.Seq2[string, int] {
	return func(yield func(string, int) bool) {
		line, rest, ended := strings.Cut(raw[at:], lineEnd)
		for ended && yield(line, len(raw)-len(rest)) {
			line, rest, ended = strings.Cut(rest, lineEnd)
		}
	}
}

// add takes a line. One that is too many is told behind what is wrong in it.
func (h *head) add(line string) api.Errno {
	f, is := field(line)
	switch {
	case !is:
		return api.ErrField
	case f.Name == codingName:
		return api.ErrLength
	case f.Name == lengthName:
		return h.size(f.Value)
	case len(h.fields) == api.MaxFields:
		return api.ErrMany
	}
	h.fields = append(h.fields, f)
	return api.OK
}

// size takes the value of a content-length.
func (h *head) size(value string) api.Errno {
	if h.sized || !isLength(value) {
		return api.ErrLength
	}
	h.sized = true
	h.length, _ = strconv.Atoi(value)
	return api.OK
}

// field reads a line as a name and a value.
func field(line string) (api.Pair, bool) {
	name, rest, parted := strings.Cut(line, ":")
	value := strings.Trim(rest, around)
	if !parted || !isName(name) || !isValue(value) {
		return api.Pair{}, false
	}
	return api.Pair{Name: small(name), Value: strings.Clone(value)}, true
}
