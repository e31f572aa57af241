package jtext

import (
	"strconv"
	"strings"
	"unicode/utf8"

	"wicket/api"
)

// The bytes that have an escape of one letter, and these letters in the same order; the / is left out, for it is read so but never written so.
const (
	shortBytes   = "\"\\\b\f\n\r\t"
	shortLetters = "\"\\bfnrt"
)

// A character above ffff is said by two halves: the first of each, what is behind the last, and the first of such characters.
const (
	firstHigh   = 0xd800
	firstLow    = 0xdc00
	behindLow   = 0xe000
	firstPaired = 0x10000
)

// quoted reads a text: P4.2.
func (r *reader) quoted() (string, bool) {
	if _, ok := r.take("\""); !ok {
		return "", false
	}
	var out strings.Builder
	for {
		c, ok := r.look()
		switch {
		case !ok:
			return "", false
		case c == '"':
			r.at++
			return out.String(), true
		case c < 32:
			return "", r.fail(api.ErrText, r.at)
		}
		var char rune
		if c == '\\' {
			char, ok = r.escape()
		} else {
			char, ok = r.character()
		}
		if !ok {
			return "", false
		}
		out.WriteRune(char)
	}
}

func (r *reader) character() (rune, bool) {
	rest := r.text[r.at:]
	char, size := utf8.DecodeRuneInString(rest)
	if char != utf8.RuneError || size > 1 {
		r.at += size
		return char, true
	}
	if utf8.FullRuneInString(rest) {
		return 0, r.fail(api.ErrUtf, r.at)
	}
	return 0, r.fail(api.ErrShort, len(r.text))
}

// escape reads from a \ on.
func (r *reader) escape() (rune, bool) {
	start := r.at
	r.at++
	c, ok := r.look()
	if !ok {
		return 0, false
	}
	short := strings.IndexByte(shortLetters, c)
	switch {
	case c == 'u':
		r.at++
		return r.numbered(start)
	case c == '/':
		r.at++
		return '/', true
	case short < 0:
		return 0, r.fail(api.ErrEscape, r.at)
	}
	r.at++
	return rune(shortBytes[short]), true
}

// numbered reads the four digits behind a \u that stands at start, and the \u behind them that a first half must have. Whatever is wrong with the two halves together has the first one's place.
func (r *reader) numbered(start int) (rune, bool) {
	first, ok := r.fourDigits()
	switch {
	case !ok:
		return 0, false
	case first < firstHigh || first >= behindLow:
		return first, true
	case first >= firstLow:
		return 0, r.fail(api.ErrUtf, start)
	}
	for _, must := range []byte{'\\', 'u'} {
		c, ok := r.look()
		if !ok {
			return 0, false
		}
		if c != must {
			return 0, r.fail(api.ErrUtf, start)
		}
		r.at++
	}
	second, ok := r.fourDigits()
	if ok && (second < firstLow || second >= behindLow) {
		return 0, r.fail(api.ErrUtf, start)
	}
	return firstPaired + (first-firstHigh)<<10 + second - firstLow, ok
}

func (r *reader) fourDigits() (rune, bool) {
	const hex = "0123456789abcdef0123456789ABCDEF"
	n := rune(0)
	for range 4 {
		c, ok := r.look()
		if !ok {
			return 0, false
		}
		digit := strings.IndexByte(hex, c)
		if digit < 0 {
			return 0, r.fail(api.ErrEscape, r.at)
		}
		n = n<<4 + rune(digit%16)
		r.at++
	}
	return n, true
}

// escaped is how a character is written within a text.
func escaped(char rune) string {
	if i := strings.IndexRune(shortBytes, char); i >= 0 {
		return "\\" + shortLetters[i:i+1]
	}
	switch {
	case char >= 32 && char <= 126:
		return string(char)
	case char < firstPaired:
		return unit(char)
	}
	above := char - firstPaired
	return unit(firstHigh+above>>10) + unit(firstLow+above&0x3ff)
}

// unit is \u and four digits; a number of five digits whose first is 1 has the zeros that four may need.
func unit(n rune) string {
	return "\\u" + strconv.FormatInt(0x10000+int64(n), 16)[1:]
}
