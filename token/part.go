package token

import (
	"wicket/api"
	"wicket/digest"
	"wicket/jtext"
)

const (
	wayOfSigning = "HS256"
	kindOfToken  = "JWT"
)

// part is a head or claims as they were read.
type part struct {
	api.Json
}

// readPart is the object of which coded is the Base64, and whether there is one.
func readPart(coded string) (part, bool) {
	text, e, _ := digest.FromBase64(coded)
	if e != api.OK {
		return part{}, false
	}
	v, e, _ := jtext.Parse(string(text))
	p := part{v}
	return p, e == api.OK && p.Kind == api.JsonObject
}

func (p part) member(name string) (part, bool) {
	v, there := jtext.Get(p.Json, name)
	return part{v}, there
}

// text is the member of that name, and whether there is one that is a text.
func (p part) text(name string) (string, bool) {
	m, there := p.member(name)
	if !there || m.Kind != api.JsonText {
		return "", false
	}
	return m.Text, true
}

// number is the member of that name, and whether there is one that is a whole number.
func (p part) number(name string) (uint64, bool) {
	m, _ := p.member(name)
	return jtext.Uint(m.Json)
}

// encoded is the Base64 of the value's text. Heads of keys and right claims have one: all is clean, and far shorter than api.MaxJson.
func encoded(v api.Json) string {
	text, _ := jtext.Print(v)
	return digest.Base64([]byte(text))
}

func headOf(kid string) api.Json {
	return jtext.Object([]string{"alg", "kid", "typ"}, jtext.Text(wayOfSigning), jtext.Text(kid), jtext.Text(kindOfToken))
}

// readHead is the Kid that a head says. Another way of signing is told ahead of what else may be wrong, for a head of that way may have other members.
func readHead(coded string) (string, api.Errno) {
	p, ok := readPart(coded)
	if !ok {
		return "", api.ErrHead
	}
	alg, ok := p.text("alg")
	if !ok {
		return "", api.ErrHead
	}
	if alg != wayOfSigning {
		return "", api.ErrAlg
	}
	kid, ok := p.text("kid")
	if _, bound := p.member("crit"); !ok || bound || !p.isTyped() {
		return "", api.ErrHead
	}
	return kid, api.OK
}

// isTyped: is the member typ, if there is one, as it must be?
func (p part) isTyped() bool {
	if _, there := p.member("typ"); !there {
		return true
	}
	typ, ok := p.text("typ")
	return ok && typ == kindOfToken
}
