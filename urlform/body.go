package urlform

import (
	"strings"

	"wicket/api"
)

// Parse: P3.2. That there are too many pairs is asked ahead of what the one too many says, for it is named first.
func Parse(body string) ([]api.Pair, api.Errno, int) {
	if len(body) > api.MaxForm {
		return nil, api.ErrLong, 0
	}
	var pairs []api.Pair
	fault, place := api.OK, 0
pieces:
	for start := 0; start < len(body); start++ {
		piece, _, _ := strings.Cut(body[start:], "&")
		switch {
		case piece == "":
			continue pieces
		case len(pairs) == api.MaxPairs:
			fault, place = api.ErrMany, start
			break pieces
		}
		pair, err, at := parsePair(piece)
		if err != api.OK {
			fault, place = err, start+at
			break pieces
		}
		pairs = append(pairs, pair)
		start += len(piece)
	}
	if fault != api.OK {
		return nil, fault, place
	}
	return pairs, api.OK, 0
}

// parsePair reads a piece that has bytes; an error's place is counted from the piece's beginning. The first = is looked for ahead of the escapes, so that one that is escaped belongs to the name.
func parsePair(piece string) (api.Pair, api.Errno, int) {
	name, value, _ := strings.Cut(piece, "=")
	n, err, at := Unescape(name)
	if err != api.OK {
		return api.Pair{}, err, at
	}
	v, err, at := Unescape(value)
	if err != api.OK {
		return api.Pair{}, err, len(name) + 1 + at
	}
	return api.Pair{Name: n, Value: v}, api.OK, 0
}

// Print: P3.3. The = stands behind an empty name with an empty value too: without it that pair would say nothing.
func Print(l []api.Pair) string {
	var out strings.Builder
	for i, p := range l {
		if i > 0 {
			out.WriteByte('&')
		}
		out.WriteString(Escape(p.Name))
		out.WriteByte('=')
		out.WriteString(Escape(p.Value))
	}
	return out.String()
}

// One: P3.4. An empty value is none, but the pair that has it counts where a name is there twice.
func One(l []api.Pair, name string) (string, bool, api.Errno) {
	value, count := "", 0
	for _, p := range l {
		if p.Name == name {
			value = p.Value
			count++
		}
	}
	if count > 1 {
		return "", false, api.ErrTwice
	}
	return strings.Clone(value), value != "", api.OK
}
