package http

import (
	"strings"

	"wicket/api"
)

const (
	maxMethod   = 16
	maxDigits   = 9 // of a content-length
	leastStatus = 100
	mostStatus  = 599
	around      = " \t" // what may stand around a value and is none of it
)

// span makes the question whether a byte is one from low to high.
func span(low, high byte) func(byte) bool {
	return func(c byte) bool { return low <= c && c <= high }
}

// either makes the question whether one of several is answered yes.
func either(questions ...func(byte) bool) func(byte) bool {
	return func(c byte) bool {
		for _, may := range questions {
			if may(c) {
				return true
			}
		}
		return false
	}
}

// run is how many bytes at the beginning of s may stand there.
func run(s string, may func(byte) bool) int {
	n := 0
	for n < len(s) && may(s[n]) {
		n++
	}
	return n
}

func only(s string, may func(byte) bool) bool {
	return run(s, may) == len(s)
}

func capital() func(byte) bool { return span('A', 'Z') }

func digit() func(byte) bool { return span('0', '9') }

// visible is what a target has.
func visible() func(byte) bool { return span('!', '~') }

// printable is what a value has: blanks too.
func printable() func(byte) bool { return span(' ', '~') }

func ofName() func(byte) bool {
	return either(span('a', 'z'), capital(), digit(), span('-', '-'))
}

func isMethod(s string) bool {
	return 1 <= len(s) && len(s) <= maxMethod && only(s, capital())
}

func isTarget(s string) bool {
	return len(s) <= api.MaxTarget && strings.HasPrefix(s, "/") && only(s, visible())
}

func isName(s string) bool {
	return 1 <= len(s) && len(s) <= api.MaxFieldName && only(s, ofName())
}

func isValue(s string) bool {
	return len(s) <= api.MaxFieldValue && strings.Trim(s, " ") == s && only(s, printable())
}

func isStatus(n int) bool {
	return leastStatus <= n && n <= mostStatus
}

// isLength: may it be a content-length's value? A sign may not.
func isLength(s string) bool {
	return 1 <= len(s) && len(s) <= maxDigits && only(s, digit())
}

func smallByte(c byte) byte {
	if 'A' <= c && c <= 'Z' {
		return c + 'a' - 'A'
	}
	return c
}

// small goes by bytes, for letters beyond ASCII are none here.
func small(s string) string {
	var out strings.Builder
	for i := range len(s) {
		out.WriteByte(smallByte(s[i]))
	}
	return out.String()
}

func sameName(a, b string) bool {
	if len(a) != len(b) {
		return false
	}
	for i := range len(a) {
		if smallByte(a[i]) != smallByte(b[i]) {
			return false
		}
	}
	return true
}
