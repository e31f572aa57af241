package jtext

import (
	"strings"

	"wicket/api"
)

// reader stands at a place of a text. Its calls answer false where they met a fault; the first one is kept, and nobody reads on behind it.
type reader struct {
	text  string
	at    int
	fault api.Errno
	place int
}

// Parse: P4.1.
func Parse(text string) (api.Json, api.Errno, int) {
	if len(text) > api.MaxJson {
		return api.Json{}, api.ErrLong, 0
	}
	r := &reader{text: text}
	v, ok := r.whole()
	if !ok {
		return api.Json{}, r.fault, r.place
	}
	return v, api.OK, 0
}

func (r *reader) whole() (api.Json, bool) {
	r.blanks()
	v, ok := r.value(0)
	if !ok {
		return v, false
	}
	r.blanks()
	if r.at < len(r.text) {
		return v, r.fail(api.ErrTail, r.at)
	}
	return v, true
}

func (r *reader) fail(fault api.Errno, place int) bool {
	r.fault, r.place = fault, place
	return false
}

func (r *reader) blanks() {
	for stands(r.text, r.at, " \t\n\r") {
		r.at++
	}
}

// look is the byte that stands next.
func (r *reader) look() (byte, bool) {
	if r.at == len(r.text) {
		return 0, r.fail(api.ErrShort, r.at)
	}
	return r.text[r.at], true
}

// take is the byte that stands next, which must be one of set.
func (r *reader) take(set string) (byte, bool) {
	c, ok := r.look()
	if !ok {
		return 0, false
	}
	if !isOf(c, set) {
		return 0, r.fail(api.ErrToken, r.at)
	}
	r.at++
	return c, true
}

// value reads from a value's first byte to its last.
func (r *reader) value(depth int) (api.Json, bool) {
	c, ok := r.look()
	switch {
	case !ok:
		return api.Json{}, false
	case c == 'n':
		return r.word("null", api.JsonNull)
	case c == 'f':
		return r.word("false", api.JsonFalse)
	case c == 't':
		return r.word("true", api.JsonTrue)
	case isOf(c, "-0123456789"):
		return r.number()
	case c == '"':
		text, ok := r.quoted()
		return api.Json{Kind: api.JsonText, Text: text}, ok
	case isOf(c, "[{") && depth >= api.MaxDepth:
		return api.Json{}, r.fail(api.ErrDepth, r.at)
	case c == '[':
		return r.list(depth)
	case c == '{':
		return r.object(depth)
	}
	return api.Json{}, r.fail(api.ErrToken, r.at)
}

func (r *reader) word(letters string, kind int) (api.Json, bool) {
	for i := range len(letters) {
		if _, ok := r.take(letters[i : i+1]); !ok {
			return api.Json{}, false
		}
	}
	return api.Json{Kind: kind}, true
}

func (r *reader) number() (api.Json, bool) {
	length, whole := literal(r.text[r.at:])
	start := r.at
	r.at += length
	if !whole {
		if _, ok := r.look(); !ok {
			return api.Json{}, false
		}
		return api.Json{}, r.fail(api.ErrNumber, r.at)
	}
	return api.Json{Kind: api.JsonNumber, Text: strings.Clone(r.text[start:r.at])}, true
}

func (r *reader) list(depth int) (api.Json, bool) {
	v := api.Json{Kind: api.JsonList}
	ok := r.between("]", func() bool {
		item, ok := r.value(depth + 1)
		v.Items = append(v.Items, item)
		return ok
	})
	return v, ok
}

func (r *reader) object(depth int) (api.Json, bool) {
	v := api.Json{Kind: api.JsonObject}
	had := map[string]struct{}{}
	ok := r.between("}", func() bool {
		name, ok := r.name(had)
		if !ok {
			return false
		}
		item, ok := r.value(depth + 1)
		v.Names = append(v.Names, name)
		v.Items = append(v.Items, item)
		return ok
	})
	return v, ok
}

// name reads a member up to its value's first byte. That the object had the name is told ahead of the colon, for the name's place is further left.
func (r *reader) name(had map[string]struct{}) (string, bool) {
	start := r.at
	name, ok := r.quoted()
	if !ok {
		return "", false
	}
	if _, twice := had[name]; twice {
		return "", r.fail(api.ErrName, start)
	}
	had[name] = struct{}{}
	r.blanks()
	_, ok = r.take(":")
	r.blanks()
	return name, ok
}

// between reads from a bracket to the one that closes, elements with commas between; element reads one from its first byte on.
func (r *reader) between(closing string, element func() bool) bool {
	r.at++
	r.blanks()
	if stands(r.text, r.at, closing) {
		r.at++
		return true
	}
	for element() {
		r.blanks()
		c, ok := r.take("," + closing)
		if !ok || c != ',' {
			return ok
		}
		r.blanks()
	}
	return false
}
