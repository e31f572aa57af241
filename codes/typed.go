package codes

import (
	"strings"

	"wicket/api"
)

// The letters of a user code by their numbers: no vowels, so that no word comes of them, and no Y.
const (
	letterB = iota
	letterC
	letterD
	letterF
	letterG
	letterH
	letterJ
	letterK
	letterL
	letterM
	letterN
	letterP
	letterQ
	letterR
	letterS
	letterT
	letterV
	letterW
	letterX
	letterZ
	letterCount
)

// fairBelow: of the bytes below it as many make each letter; with those above it the first letters would come more often.
const fairBelow = 256 - 256%letterCount

const (
	shownMark   = "-"
	passedMarks = " -_./"
)

var letters = [letterCount]byte{
	letterB: 'B', letterC: 'C', letterD: 'D', letterF: 'F', letterG: 'G',
	letterH: 'H', letterJ: 'J', letterK: 'K', letterL: 'L', letterM: 'M',
	letterN: 'N', letterP: 'P', letterQ: 'Q', letterR: 'R', letterS: 'S',
	letterT: 'T', letterV: 'V', letterW: 'W', letterX: 'X', letterZ: 'Z',
}

// Show: P9.4.
func Show(code string) string {
	if !isUserCode(code) {
		return ""
	}
	const half = api.CodeSize / 2
	return string(joined([]byte(code[:half]), []byte(shownMark), []byte(code[half:])))
}

// Normal: P9.5.
func Normal(typed string) (string, api.Errno) {
	if len(typed) > api.MaxTyped {
		return "", api.ErrLong
	}
	passed := oneOf(passedMarks)
	var kept []byte
	for i := range len(typed) {
		if !passed(typed[i]) {
			kept = append(kept, capital(typed[i]))
		}
	}
	code := string(kept)
	if !isUserCode(code) {
		return "", api.ErrWord
	}
	return code, api.OK
}

// oneOf asks of a byte whether it is one of the marks.
func oneOf(marks string) func(byte) bool {
	return func(c byte) bool { return strings.IndexByte(marks, c) >= 0 }
}

// capital goes by bytes, not by runes: beyond ASCII there are small letters whose capitals are of the twenty.
func capital(c byte) byte {
	if 'a' <= c && c <= 'z' {
		return c - 'a' + 'A'
	}
	return c
}

func isUserCode(text string) bool {
	if len(text) != api.CodeSize {
		return false
	}
	for i := range len(text) {
		if !isLetter(text[i]) {
			return false
		}
	}
	return true
}

func isLetter(c byte) bool {
	for _, l := range letters {
		if l == c {
			return true
		}
	}
	return false
}
