package endpoint

import (
	"slices"
	"strings"

	"wicket/api"
	"wicket/token"
)

const (
	scheme = "https://"
	quotes = "\"\\" // bytes that would not stand in a JSON text as they are
)

func isIssuer(text string) bool {
	return len(text) > len(scheme) && isRun(text, api.MaxIssuer, '!') && !strings.ContainsAny(text, quotes) &&
		strings.HasPrefix(text, scheme) && !strings.HasSuffix(text, "/")
}

// isRun: has text at most so many bytes, each from low up to 126?
func isRun(text string, most int, low byte) bool {
	for i := range len(text) {
		if text[i] < low || text[i] > '~' {
			return false
		}
	}
	return len(text) <= most
}

// canSign: is there a key, and are all of them a ring? No token is so short as none: what else Verify says of it says nothing of the keys.
func canSign(keys []api.Key) bool {
	_, err := token.Verify(keys, "", 0)
	return len(keys) > 0 && err != api.ErrKey
}

// copied shares no memory with keys.
func copied(keys []api.Key) []api.Key {
	keys = slices.Clone(keys)
	for i, k := range keys {
		keys[i] = api.Key{Kid: strings.Clone(k.Kid), Secret: strings.Clone(k.Secret)}
	}
	return keys
}
