package urlform

import (
	"slices"
	"strings"

	"wicket/api"
)

// Scopes: P3.5.
func Scopes(text string) ([]string, api.Errno) {
	switch {
	case len(text) > api.MaxScope:
		return nil, api.ErrLong
	case text == "":
		return nil, api.OK
	}
	mayStand := visible(noScope)
	scopes := strings.Split(text, " ")
	for i, s := range scopes {
		if !isScope(s, mayStand) {
			return nil, api.ErrList
		}
		scopes[i] = strings.Clone(s)
	}
	slices.Sort(scopes)
	scopes = slices.Compact(scopes)
	if len(scopes) > api.MaxScopes {
		return nil, api.ErrMany
	}
	return scopes, api.OK
}

// isScope: whether s has bytes, and all of them may stand in a scope.
func isScope(s string, mayStand func(c byte) bool) bool {
	for i := range len(s) {
		if !mayStand(s[i]) {
			return false
		}
	}
	return s != ""
}

// Within: P3.6.
func Within(l, all []string) bool {
	for _, s := range l {
		if !slices.Contains(all, s) {
			return false
		}
	}
	return true
}
