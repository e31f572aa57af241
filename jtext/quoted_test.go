package jtext_test

import (
	"fmt"
	"strings"
	"testing"
	"unicode/utf8"

	"wicket/api"
	"wicket/jtext"
)

// P4.2, the chapter's example 3.
func TestTextExamples(t *testing.T) {
	isRefused(t, "{\"a\":1,\"\\u0061\":2}", api.ErrName, 7)
	isParsed(t, "\"\\ud83d\\ude00\"", txt("\xf0\x9f\x98\x80"))
	isRefused(t, "\"\\ud83d\"", api.ErrUtf, 1)
	isRefused(t, "\"\\ude00\"", api.ErrUtf, 1)
	isRefused(t, "\"\\ud83d\\u0041\"", api.ErrUtf, 1)
	isRefused(t, "\"\\ud83d\\u00", api.ErrShort, 11)
	isRefused(t, "\"\xc3\"", api.ErrUtf, 1)
	isRefused(t, "\"\xc3", api.ErrShort, 2)
}

// P4.2: each byte by itself, within a text and behind a \ .
func TestTextBytes(t *testing.T) {
	short := map[byte]string{'"': "\"", '\\': "\\", '/': "/", 'b': "\x08", 'f': "\x0c", 'n': "\x0a", 'r': "\x0d", 't': "\x09"}
	for n := range 256 {
		c := string([]byte{byte(n)})
		switch {
		case n < 32:
			isRefused(t, `"ab`+c+`"`, api.ErrText, 3)
		case n == '"':
			isRefused(t, `"ab`+c+`"`, api.ErrTail, 4)
		case n == '\\':
			isRefused(t, `"ab`+c+`"`, api.ErrShort, 5)
		case n >= 128:
			isRefused(t, `"ab`+c+`"`, api.ErrUtf, 3)
		default:
			isParsed(t, `"ab`+c+`"`, txt("ab"+c))
		}
		if said, there := short[byte(n)]; there {
			isParsed(t, `"ab\`+c+`c"`, txt("ab"+said+"c"))
		} else if n != 'u' {
			isRefused(t, `"ab\`+c+`c"`, api.ErrEscape, 4)
		}
		if isHex := strings.Contains("0123456789abcdefABCDEF", c); isHex {
			isParsed(t, `"\u004`+c+`"`, txt(string(rune(0x40+hexDigit(byte(n))))))
			isParsed(t, `"\u0`+c+`41"`, txt(string(rune(0x41+hexDigit(byte(n))<<8))))
		} else {
			for i := range 4 {
				isRefused(t, `"\u`+"0041"[:i]+c+`0000"`, api.ErrEscape, 3+i)
				isRefused(t, `"\ud83d\u`+"de00"[:i]+c+`0000"`, api.ErrEscape, 9+i)
			}
		}
	}
}

func hexDigit(c byte) int {
	return strings.IndexByte("0123456789abcdef", strings.ToLower(string(rune(c)))[0])
}

// P4.2: every number of four digits, in letters of both kinds, says its character, or is a half of one.
func TestTextNumbers(t *testing.T) {
	for n := range 0x10000 {
		low, high := fmt.Sprintf(`"\u%04x"`, n), fmt.Sprintf(`"\u%04X"`, n)
		if n >= 0xd800 && n < 0xe000 {
			isRefused(t, low, api.ErrUtf, 1)
			isRefused(t, high, api.ErrUtf, 1)
			continue
		}
		isParsed(t, low, txt(string(rune(n))))
		isParsed(t, high, txt(string(rune(n))))
	}
}

// P4.2: the two halves of a character above ffff, at the borders and between; each other pair is none.
func TestTextHalves(t *testing.T) {
	halves := []int{0, 0x41, 0xd7ff, 0xd800, 0xd801, 0xd83d, 0xdbff, 0xdc00, 0xdc01, 0xde00, 0xdfff, 0xe000, 0xffff}
	for _, a := range halves {
		for _, b := range halves {
			text := fmt.Sprintf(`"-\u%04x\u%04X"`, a, b)
			isHigh, isLow := func(n int) bool { return n >= 0xd800 && n < 0xdc00 }, func(n int) bool { return n >= 0xdc00 && n < 0xe000 }
			switch {
			case isHigh(a) && isLow(b):
				isParsed(t, text, txt("-"+string(rune(0x10000+(a-0xd800)*0x400+b-0xdc00))))
			case isHigh(a) || isLow(a):
				isRefused(t, text, api.ErrUtf, 2)
			case isHigh(b) || isLow(b):
				isRefused(t, text, api.ErrUtf, 8)
			default:
				isParsed(t, text, txt("-"+string(rune(a))+string(rune(b))))
			}
		}
	}
	for c := rune(0x10000); c <= 0x10ffff; c += 0x3fd {
		isParsed(t, slowQuote(string(c)), txt(string(c)))
		isParsed(t, `"`+string(c)+`"`, txt(string(c)))
	}
}

// P4.2: what stands behind a first half, from the left.
func TestTextBehindAHalf(t *testing.T) {
	const half = `"\ud83d`
	for _, x := range []struct {
		behind string
		fault  api.Errno
		place  int
	}{
		{"", api.ErrShort, 7}, {`\`, api.ErrShort, 8}, {`\u`, api.ErrShort, 9}, {`\ude0`, api.ErrShort, 12}, {`\ude00`, api.ErrShort, 13},
		{`x`, api.ErrUtf, 1}, {`"`, api.ErrUtf, 1}, {"\x00", api.ErrUtf, 1}, {"\xff", api.ErrUtf, 1}, {"\xf0\x9f\x98\x80", api.ErrUtf, 1},
		{`\x`, api.ErrUtf, 1}, {`\n`, api.ErrUtf, 1}, {`\U`, api.ErrUtf, 1}, {`\"`, api.ErrUtf, 1}, {`\\`, api.ErrUtf, 1}, {"\\\x00", api.ErrUtf, 1},
		{`\ux`, api.ErrEscape, 9}, {`\u00x`, api.ErrEscape, 11}, {`\ude0"`, api.ErrEscape, 12}, {`\u"`, api.ErrEscape, 9},
		{`\u0000`, api.ErrUtf, 1}, {`\ud83d`, api.ErrUtf, 1}, {`\ue000`, api.ErrUtf, 1}, {`\ud83d\ude00"`, api.ErrUtf, 1},
	} {
		isRefused(t, half+x.behind, x.fault, x.place)
	}
	isRefused(t, `"\ud83d\ude00\ud83d"`, api.ErrUtf, 13)
	isRefused(t, `"\ud83d\ude00\ude00"`, api.ErrUtf, 13)
}

// P4.2: where a text ends too soon.
func TestTextShort(t *testing.T) {
	for _, text := range []string{`"`, `"a`, `"\`, `"\u`, `"\u00`, `"\u004`, `"\u0041`, `"\"`, `{"`, `["a\`, "\"é", "\"\xc3", "\"\xe2\x82", "\"\xf0\x9f\x98", "\"\xf0", "\"\xe0", "\"\xe0\xa0", "\"\xed\x9f", "\"\xf4\x8f\xbf"} {
		isRefused(t, text, api.ErrShort, len(text))
	}
}

// P4.2: bytes that are no character; what is cut off by the text's end is asked whether it could become one.
func TestTextNoCharacter(t *testing.T) {
	for _, bytes := range []string{
		"\x80", "\xbf", "\xc0", "\xc1", "\xc0\x80", "\xc1\xbf", "\xe0\x80", "\xe0\x9f", "\xe0\x9f\xbf", "\xed\xa0", "\xed\xa0\x80", "\xed\xbf\xbf", "\xed\xa0\xbd\xed\xb8\x80",
		"\xf0\x80", "\xf0\x8f", "\xf0\x8f\xbf\xbf", "\xf4\x90", "\xf4\x90\x80\x80", "\xf5", "\xf8\x88\x80\x80\x80", "\xfe", "\xff",
		"\xc3\xc3", "\xe2\x82\xc3", "\xe2\xe2", "\xf0\x9f\x98\xc3", "\xf0\x9f\xc3", "\xc3A", "\xe2\x82A", "\xf0\x9f\x98A", "\xc3\\", "\xc3\x00",
	} {
		isRefused(t, `"`+bytes, api.ErrUtf, 1)
		isRefused(t, `"`+bytes+`"`, api.ErrUtf, 1)
		isRefused(t, `["a","é`+bytes+`"]`, api.ErrUtf, 8)
		isRefused(t, `{"é`+bytes+`":1}`, api.ErrUtf, 4)
	}
	for _, cut := range []string{"\xc3", "\xe2\x82", "\xf0\x9f\x98", "\xe2", "\xf0", "\xf0\x9f"} {
		isRefused(t, `"`+cut+`"`, api.ErrUtf, 1)
		isRefused(t, `"`+cut+" ", api.ErrUtf, 1)
	}
}

// P4.2: two bytes of 128 and above, all of them, as the whole, cut off, and ahead of a ".
func TestTextTwoBytes(t *testing.T) {
	for a := 128; a < 256; a++ {
		for b := 128; b < 256; b++ {
			pair := string([]byte{byte(a), byte(b)})
			switch {
			case isCharacter(pair):
				isParsed(t, `"`+pair+`"`, txt(pair))
				isRefused(t, `"`+pair, api.ErrShort, 3)
			case beginsCharacter(pair):
				isRefused(t, `"`+pair+`"`, api.ErrUtf, 1)
				isRefused(t, `"`+pair, api.ErrShort, 3)
			default:
				isRefused(t, `"`+pair+`"`, api.ErrUtf, 1)
				isRefused(t, `"`+pair, api.ErrUtf, 1)
			}
		}
	}
}

// P4.2 and P4.3: each character is read as it stands (but for those that must be escaped), and as it is written.
func TestTextOfEachCharacter(t *testing.T) {
	for c := rune(0); c <= utf8.MaxRune; c++ {
		if c >= 0xd800 && c < 0xe000 {
			continue
		}
		text := string(c)
		if c >= 32 && c != '"' && c != '\\' {
			if v, e, _ := jtext.Parse(`"` + text + `"`); e != api.OK || v.Text != text {
				t.Fatalf("the character %x: %q %d", c, v.Text, e)
			}
		}
		s, e := jtext.Print(txt(text))
		if v, f, _ := jtext.Parse(s); e != api.OK || f != api.OK || v.Text != text {
			t.Fatalf("the character %x is written %s: %d %d %q", c, s, e, f, v.Text)
		}
	}
}
