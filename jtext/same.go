package jtext

import (
	"unicode/utf8"

	"wicket/api"
)

// Same: P4.5.
func Same(a, b api.Json) bool {
	return isValue(a, 0) && isValue(b, 0) && alike(a, b)
}

// isValue has no bound but the depth, so that texts too long to be written count too.
func isValue(v api.Json, depth int) bool {
	if _, err := shapeOf(v, depth); err != api.OK || !namesDiffer(v.Names) {
		return false
	}
	for _, item := range v.Items {
		if !isValue(item, depth+1) {
			return false
		}
	}
	return true
}

// namesDiffer: are all names clean, and no two alike?
func namesDiffer(names []string) bool {
	had := map[string]struct{}{}
	for _, name := range names {
		had[name] = struct{}{}
		if !utf8.ValidString(name) {
			return false
		}
	}
	return len(had) == len(names)
}

// alike holds two values against each other.
func alike(a, b api.Json) bool {
	if a.Kind != b.Kind || a.Text != b.Text || len(a.Items) != len(b.Items) {
		return false
	}
	if a.Kind == api.JsonObject {
		return membersAlike(a, b)
	}
	for i := range a.Items {
		if !alike(a.Items[i], b.Items[i]) {
			return false
		}
	}
	return true
}

func membersAlike(a, b api.Json) bool {
	places := map[string]int{}
	for i, name := range b.Names {
		places[name] = i
	}
	for i, name := range a.Names {
		place, there := places[name]
		if !there || !alike(a.Items[i], b.Items[place]) {
			return false
		}
	}
	return true
}
