package client

import (
	"slices"
	"strings"

	"wicket/api"
	"wicket/urlform"
)

const (
	urlBegin = "https://"
	lastByte = 126 // of those that may stand in a client's texts
)

// Check: P11.3.
func Check(c api.Client) api.Errno {
	switch {
	case !isId(c.Id), !isSecret(c.Secret):
		return api.ErrClient
	case c.Grants < api.GrantDevice, c.Grants > api.GrantDevice|api.GrantCiba:
		return api.ErrClient
	case !isTold(c), !areScopes(c.Scopes):
		return api.ErrClient
	}
	return api.OK
}

func isId(id string) bool {
	return len(id) >= 1 && len(id) <= api.MaxName && allFrom(id, 33)
}

func isSecret(secret string) bool {
	return len(secret) <= api.MaxSecret && allFrom(secret, 32)
}

// isTold: are Ping and Url such as may be beside one another, and beside what else c has?
func isTold(c api.Client) bool {
	if !c.Ping {
		return c.Url == ""
	}
	return c.Grants&api.GrantCiba != 0 && c.Secret != "" && isUrl(c.Url)
}

// isUrl: there must be something behind the beginning.
func isUrl(url string) bool {
	return len(url) > len(urlBegin) && len(url) <= api.MaxUrl && strings.HasPrefix(url, urlBegin) && allFrom(url, 33)
}

// areScopes: if any text has these scopes, then the one with each of them once, in their order, has: no other is shorter.
func areScopes(scopes []string) bool {
	if len(scopes) > api.MaxScopes {
		return false
	}
	read, e := urlform.Scopes(strings.Join(scopes, " "))
	return e == api.OK && slices.Equal(read, scopes)
}

// allFrom: is each byte of s from first to lastByte?
func allFrom(s string, first byte) bool {
	for i := range len(s) {
		if s[i] < first || s[i] > lastByte {
			return false
		}
	}
	return true
}
