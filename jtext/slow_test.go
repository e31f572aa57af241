package jtext_test

import (
	"fmt"
	"regexp"
	"slices"
	"strings"
	"unicode/utf8"

	"wicket/api"
)

var (
	literalForm = regexp.MustCompile(`^-?(0|[1-9][0-9]*)(\.[0-9]+)?([eE][+-]?[0-9]+)?$`)
	hexForm     = regexp.MustCompile(`^[0-9a-fA-F]{4}$`)
)

// slow reads by the words of 4.2 and 4.3, and stops by a panic with the fault.
type slow struct{ text string }

type slowFault struct {
	errno api.Errno
	place int
}

func (s slow) fail(errno api.Errno, place int) { panic(slowFault{errno, place}) }

// at is the byte at p; the text must not end there.
func (s slow) at(p int) byte {
	if p >= len(s.text) {
		s.fail(api.ErrShort, len(s.text))
	}
	return s.text[p]
}

func (s slow) blanks(p int) int {
	return len(s.text) - len(strings.TrimLeft(s.text[p:], "\x20\x09\x0a\x0d"))
}

func (s slow) must(p int, c byte) int {
	if s.at(p) != c {
		s.fail(api.ErrToken, p)
	}
	return p + 1
}

func slowParse(text string) (v api.Json, errno api.Errno, place int) {
	if len(text) > api.MaxJson {
		return api.Json{}, api.ErrLong, 0
	}
	defer func() {
		if f, ok := recover().(slowFault); ok {
			v, errno, place = api.Json{}, f.errno, f.place
		}
	}()
	s := slow{text}
	v, p := s.value(s.blanks(0), 0)
	if p = s.blanks(p); p < len(text) {
		s.fail(api.ErrTail, p)
	}
	return v, api.OK, 0
}

func (s slow) value(p, depth int) (api.Json, int) {
	switch c := s.at(p); c {
	case 'n', 'f', 't':
		kind := strings.IndexByte("nft", c)
		for _, letter := range []byte([]string{"null", "false", "true"}[kind]) {
			p = s.must(p, letter)
		}
		return api.Json{Kind: kind}, p
	case '-', '0', '1', '2', '3', '4', '5', '6', '7', '8', '9':
		return s.number(p)
	case '"':
		text, p := s.quoted(p)
		return txt(text), p
	case '[', '{':
		if depth == api.MaxDepth {
			s.fail(api.ErrDepth, p)
		}
		return s.inside(p, depth, c == '{')
	}
	s.fail(api.ErrToken, p)
	return api.Json{}, 0
}

// number tries all beginnings: one to which a 0 may be added is the beginning of a literal too.
func (s slow) number(p int) (api.Json, int) {
	end := p
	for n := p + 1; n <= len(s.text) && n < p+40; n++ {
		if piece := s.text[p:n]; piece == "-" || literalForm.MatchString(piece) || literalForm.MatchString(piece+"0") {
			end = n
		}
	}
	if !literalForm.MatchString(s.text[p:end]) {
		s.at(end)
		s.fail(api.ErrNumber, end)
	}
	return num(s.text[p:end]), end
}

func (s slow) inside(p, depth int, named bool) (api.Json, int) {
	v, closing := lst(), byte(']')
	if named {
		v, closing = empty, '}'
	}
	p = s.blanks(p + 1)
	if s.at(p) == closing {
		return v, p + 1
	}
	for {
		if named {
			first := p
			s.must(p, '"')
			var name string
			name, p = s.quoted(p)
			if slices.Contains(v.Names, name) {
				s.fail(api.ErrName, first)
			}
			v.Names = append(v.Names, name)
			p = s.blanks(s.must(s.blanks(p), ':'))
		}
		item, q := s.value(p, depth+1)
		v.Items = append(v.Items, item)
		p = s.blanks(q)
		if s.at(p) == closing {
			return v, p + 1
		}
		p = s.blanks(s.must(p, ','))
	}
}

func (s slow) quoted(p int) (string, int) {
	out := ""
	for p++; ; {
		c := s.at(p)
		piece := ""
		switch {
		case c == '"':
			return out, p + 1
		case c < 32:
			s.fail(api.ErrText, p)
		case c == '\\':
			piece, p = s.escape(p)
		case c < 128:
			piece, p = string(rune(c)), p+1
		default:
			piece, p = s.character(p)
		}
		out += piece
	}
}

func isCharacter(b string) bool { return utf8.ValidString(b) && utf8.RuneCountInString(b) == 1 }

// beginsCharacter: may something be laid behind b so that it is a character? The borders of what may stand there are tried.
func beginsCharacter(b string) bool {
	if isCharacter(b) {
		return true
	}
	if len(b) < 4 {
		for _, c := range []string{"\x80", "\x8f", "\x90", "\x9f", "\xa0", "\xbf"} {
			if beginsCharacter(b + c) {
				return true
			}
		}
	}
	return false
}

func (s slow) character(p int) (string, int) {
	for size := 2; size <= 4 && p+size <= len(s.text); size++ {
		if b := s.text[p : p+size]; isCharacter(b) {
			return b, p + size
		}
	}
	if rest := s.text[p:]; len(rest) < 4 && beginsCharacter(rest) {
		s.fail(api.ErrShort, len(s.text))
	}
	s.fail(api.ErrUtf, p)
	return "", 0
}

func (s slow) escape(p int) (string, int) {
	c := s.at(p + 1)
	if c != 'u' {
		i := strings.IndexByte(`"\/bfnrt`, c)
		if i < 0 {
			s.fail(api.ErrEscape, p+1)
		}
		return string([]byte{'"', '\\', '/', 8, 12, 10, 13, 9}[i : i+1][0]), p + 2
	}
	first := s.hex(p + 2)
	if first < 0xd800 || first > 0xdfff {
		return string(rune(first)), p + 6
	}
	if first >= 0xdc00 || s.at(p+6) != '\\' || s.at(p+7) != 'u' {
		s.fail(api.ErrUtf, p)
	}
	second := s.hex(p + 8)
	if second < 0xdc00 || second > 0xdfff {
		s.fail(api.ErrUtf, p)
	}
	return string(rune(0x10000 + 0x400*(first%0x400) + second%0x400)), p + 12
}

func (s slow) hex(p int) int {
	n := 0
	for i := p; i < p+4; i++ {
		if s.at(i); !hexForm.MatchString(strings.Repeat(s.text[i:i+1], 4)) {
			s.fail(api.ErrEscape, i)
		}
	}
	fmt.Sscanf(s.text[p:p+4], "%x", &n)
	return n
}

// step is a question that is asked while a value is written, or a byte.
type step struct {
	fault api.Errno
	c     byte
}

func bytesOf(s string) []step {
	l := make([]step, len(s))
	for i := range l {
		l[i].c = s[i]
	}
	return l
}

// steps goes by the words of P4.3, without ErrLong; what stands behind the first fault is left out.
func steps(v api.Json, depth int) []step {
	nests := v.Kind == api.JsonList || v.Kind == api.JsonObject
	if depth > api.MaxDepth || nests && depth == api.MaxDepth {
		return []step{{fault: api.ErrDepth}}
	}
	if v.Kind < 0 || v.Kind > 6 ||
		v.Text != "" && v.Kind != api.JsonNumber && v.Kind != api.JsonText ||
		len(v.Items) > 0 && !nests || len(v.Names) > 0 && v.Kind != api.JsonObject ||
		v.Kind == api.JsonNumber && !literalForm.MatchString(v.Text) ||
		v.Kind == api.JsonText && !utf8.ValidString(v.Text) ||
		v.Kind == api.JsonObject && len(v.Names) != len(v.Items) {
		return []step{{fault: api.ErrJson}}
	}
	switch v.Kind {
	case api.JsonNumber:
		return bytesOf(v.Text)
	case api.JsonText:
		return bytesOf(slowQuote(v.Text))
	case api.JsonList, api.JsonObject:
		return stepsInside(v, depth)
	}
	return bytesOf([]string{"null", "false", "true"}[v.Kind])
}

func stepsInside(v api.Json, depth int) []step {
	brackets := "[]{}"[2*(v.Kind-api.JsonList):]
	l := bytesOf(brackets[:1])
	for i, item := range v.Items {
		if i > 0 {
			l = append(l, step{c: ','})
		}
		if v.Kind == api.JsonObject {
			switch name := v.Names[i]; {
			case !utf8.ValidString(name):
				return append(l, step{fault: api.ErrJson})
			case slices.Contains(v.Names[:i], name):
				return append(l, step{fault: api.ErrName})
			default:
				l = append(l, bytesOf(slowQuote(name)+":")...)
			}
		}
		l = append(l, steps(item, depth+1)...)
		if l[len(l)-1].fault != api.OK {
			return l
		}
	}
	return append(l, bytesOf(brackets[1:2])...)
}

func slowQuote(text string) string {
	var out strings.Builder
	out.WriteByte('"')
	for _, c := range []rune(text) {
		switch {
		case c == '"', c == '\\':
			out.WriteString(`\` + string(c))
		case c >= 8 && c <= 13 && c != 11:
			out.WriteString(`\` + string("btn_fr"[c-8]))
		case c >= 32 && c <= 126:
			out.WriteRune(c)
		case c <= 0xffff:
			fmt.Fprintf(&out, `\u%04x`, c)
		default:
			fmt.Fprintf(&out, `\u%04x\u%04x`, 0xd800+(c-0x10000)/0x400, 0xdc00+(c-0x10000)%0x400)
		}
	}
	out.WriteByte('"')
	return out.String()
}

// slowPrint writes at most limit bytes.
func slowPrint(v api.Json, limit int) (string, api.Errno) {
	out := []byte{}
	for _, s := range steps(v, 0) {
		if s.fault != api.OK {
			return "", s.fault
		}
		if len(out) == limit {
			return "", api.ErrLong
		}
		out = append(out, s.c)
	}
	return string(out), api.OK
}

// inOrder is v with the members of each object in the order of their names.
func inOrder(v api.Json) api.Json {
	v = twin(v)
	for i := range v.Items {
		v.Items[i] = inOrder(v.Items[i])
	}
	for i := range v.Names {
		for j := range i {
			if v.Names[i] < v.Names[j] {
				v.Names[i], v.Names[j] = v.Names[j], v.Names[i]
				v.Items[i], v.Items[j] = v.Items[j], v.Items[i]
			}
		}
	}
	return v
}

func slowCanon(v api.Json, limit int) (string, api.Errno) {
	if _, e := slowPrint(v, limit); e != api.OK {
		return "", e
	}
	return slowPrint(inOrder(v), limit)
}
