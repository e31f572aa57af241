package jtext

import (
	"strconv"
	"strings"

	"wicket/api"
)

// Get: P4.6. The Item is copied to its leaves, for what is answered is new memory.
func Get(v api.Json, name string) (api.Json, bool) {
	if v.Kind != api.JsonObject {
		return api.Json{}, false
	}
	for i := range min(len(v.Names), len(v.Items)) {
		if v.Names[i] == name {
			return copied(v.Items[i]), true
		}
	}
	return api.Json{}, false
}

// Int: P4.6.
func Int(v api.Json) (int, bool) {
	size, below := strings.CutPrefix(v.Text, "-")
	if v.Kind != api.JsonNumber || !isWhole(size) || below && size == "0" {
		return 0, false
	}
	n, err := strconv.ParseInt(v.Text, 10, 64)
	if err != nil {
		return 0, false
	}
	return int(n), true
}

// Uint: P4.6.
func Uint(v api.Json) (uint64, bool) {
	if v.Kind != api.JsonNumber || !isWhole(v.Text) {
		return 0, false
	}
	n, err := strconv.ParseUint(v.Text, 10, 64)
	if err != nil {
		return 0, false
	}
	return n, true
}

// isWhole: is s digits, without zeros ahead of others?
func isWhole(s string) bool {
	return s == "0" || s != "" && s[0] != '0' && digits(s, 0) == len(s)
}

// Text: P4.7.
func Text(s string) api.Json {
	return api.Json{Kind: api.JsonText, Text: strings.Clone(s)}
}

// Number: P4.7.
func Number(n uint64) api.Json {
	return api.Json{Kind: api.JsonNumber, Text: strconv.FormatUint(n, 10)}
}

// Bool: P4.7.
func Bool(b bool) api.Json {
	if b {
		return api.Json{Kind: api.JsonTrue}
	}
	return api.Json{Kind: api.JsonFalse}
}

// List: P4.7.
func List(items ...api.Json) api.Json {
	return copied(api.Json{Kind: api.JsonList, Items: items})
}

// Object: P4.7.
func Object(names []string, items ...api.Json) api.Json {
	return copied(api.Json{Kind: api.JsonObject, Names: names, Items: items})
}

// copied shares no memory with v, nor do two of its parts with each other.
func copied(v api.Json) api.Json {
	c := api.Json{Kind: v.Kind, Text: strings.Clone(v.Text)}
	for _, name := range v.Names {
		c.Names = append(c.Names, strings.Clone(name))
	}
	for _, item := range v.Items {
		c.Items = append(c.Items, copied(item))
	}
	return c
}
