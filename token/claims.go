package token

import (
	"unicode/utf8"

	"wicket/api"
	"wicket/jtext"
)

const (
	nameIssued  = "iat"
	nameExpires = "exp"
)

// textCount is how many of the claims are texts.
const textCount = 5

// textLimits: the claims that are texts, as they stand in a token one behind the other, and how many bytes each may have.
var textLimits = [textCount]struct {
	name        string
	least, most int
}{
	{"iss", 1, api.MaxClaim},
	{"sub", 1, api.MaxClaim},
	{"client_id", 1, api.MaxClaim},
	{"scope", 0, api.MaxClaim},
	{"jti", 1, api.MaxClaim},
}

// texts are the claims that are texts, in the order of textLimits.
func texts(c api.Claims) [textCount]string {
	return [textCount]string{c.Issuer, c.Subject, c.Client, c.Scope, c.Id}
}

// areRight: are these right claims?
func areRight(c api.Claims) bool {
	for i, text := range texts(c) {
		limit := textLimits[i]
		if len(text) < limit.least || len(text) > limit.most || !utf8.ValidString(text) {
			return false
		}
	}
	return c.Issued < c.Expires
}

// valueOf is the claims as they stand in a token.
func valueOf(c api.Claims) api.Json {
	var names []string
	var items []api.Json
	for i, text := range texts(c) {
		names = append(names, textLimits[i].name)
		items = append(items, jtext.Text(text))
	}
	names = append(names, nameIssued, nameExpires)
	items = append(items, jtext.Number(c.Issued), jtext.Number(c.Expires))
	return jtext.Object(names, items...)
}

// readClaims is the right claims that a token's middle part says.
func readClaims(coded string) (api.Claims, api.Errno) {
	p, ok := readPart(coded)
	if !ok {
		return api.Claims{}, api.ErrClaims
	}
	c, ok := p.claims()
	if !ok || !areRight(c) {
		return api.Claims{}, api.ErrClaims
	}
	return c, api.OK
}

// claims are those that the members say, right or not, and whether all of them are there.
func (p part) claims() (api.Claims, bool) {
	var t [textCount]string
	for i, limit := range textLimits {
		text, ok := p.text(limit.name)
		if !ok {
			return api.Claims{}, false
		}
		t[i] = text
	}
	issued, ok := p.number(nameIssued)
	if !ok {
		return api.Claims{}, false
	}
	expires, ok := p.number(nameExpires)
	if !ok {
		return api.Claims{}, false
	}
	return api.Claims{Issuer: t[0], Subject: t[1], Client: t[2], Scope: t[3], Id: t[4], Issued: issued, Expires: expires}, true
}
