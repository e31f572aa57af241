package http

import (
	"strconv"
	"strings"

	"wicket/api"
)

// written is a message, from its first line on. The body is written last, so that one that is too long is not copied.
func written(first string, fields []api.Pair, body string) (string, api.Errno) {
	if len(fields) > api.MaxFields {
		return "", api.ErrMany
	}
	var out strings.Builder
	out.WriteString(first + lineEnd)
	for _, f := range fields {
		if !mayBe(f) {
			return "", api.ErrField
		}
		writeField(&out, f)
	}
	if body != "" {
		writeField(&out, api.Pair{Name: lengthName, Value: strconv.Itoa(len(body))})
	}
	out.WriteString(lineEnd)
	if out.Len()+len(body) > api.MaxHttp {
		return "", api.ErrLong
	}
	out.WriteString(body)
	return out.String(), api.OK
}

// mayBe: may a field be handed in? How long the body is says the body alone.
func mayBe(f api.Pair) bool {
	return isName(f.Name) && isValue(f.Value) && !sameName(f.Name, lengthName) && !sameName(f.Name, codingName)
}

func writeField(out *strings.Builder, f api.Pair) {
	out.WriteString(small(f.Name) + ":")
	if f.Value != "" {
		out.WriteString(" " + f.Value)
	}
	out.WriteString(lineEnd)
}
