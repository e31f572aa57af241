package jtext

import (
	"slices"
	"strings"
	"unicode/utf8"

	"wicket/api"
)

// writer has what is written so far, and whether members are written in the order of their names.
type writer struct {
	out    strings.Builder
	sorted bool
}

// Print: P4.3.
func Print(v api.Json) (string, api.Errno) {
	return written(v, false)
}

// Canon: P4.4. Print is asked first, for which fault is the first one hangs on the order in which members stand.
func Canon(v api.Json) (string, api.Errno) {
	if _, err := Print(v); err != api.OK {
		return "", err
	}
	return written(v, true)
}

func written(v api.Json, sorted bool) (string, api.Errno) {
	w := &writer{sorted: sorted}
	if err := w.value(v, 0); err != api.OK {
		return "", err
	}
	return w.out.String(), api.OK
}

func (w *writer) put(s string) api.Errno {
	if w.out.Len()+len(s) > api.MaxJson {
		return api.ErrLong
	}
	w.out.WriteString(s)
	return api.OK
}

func (w *writer) value(v api.Json, depth int) api.Errno {
	s, err := shapeOf(v, depth)
	if err != api.OK {
		return err
	}
	switch x := s.(type) {
	case word:
		err = w.put(string(x))
	case number:
		err = w.put(string(x))
	case quoted:
		err = w.quote(string(x))
	case list:
		err = w.between("[", "]", len(x), func(i int) api.Errno { return w.value(x[i], depth+1) })
	case object:
		err = w.members(x, depth)
	}
	return err
}

func (w *writer) quote(text string) api.Errno {
	err := w.put("\"")
	for _, char := range text {
		if err != api.OK {
			return err
		}
		err = w.put(escaped(char))
	}
	if err != api.OK {
		return err
	}
	return w.put("\"")
}

func (w *writer) members(o object, depth int) api.Errno {
	turn := func(i int) int { return i }
	if w.sorted {
		order := byName(o.names)
		turn = func(i int) int { return order[i] }
	}
	had := map[string]struct{}{}
	return w.between("{", "}", len(o.items), func(i int) api.Errno {
		m := turn(i)
		if err := w.name(o.names[m], had); err != api.OK {
			return err
		}
		return w.value(o.items[m], depth+1)
	})
}

// byName is the numbers of the names in the order in which these rise.
func byName(names []string) []int {
	order := make([]int, len(names))
	for i := range order {
		order[i] = i
	}
	slices.SortFunc(order, func(a, b int) int { return strings.Compare(names[a], names[b]) })
	return order
}

func (w *writer) name(name string, had map[string]struct{}) api.Errno {
	if !utf8.ValidString(name) {
		return api.ErrJson
	}
	if _, twice := had[name]; twice {
		return api.ErrName
	}
	had[name] = struct{}{}
	if err := w.quote(name); err != api.OK {
		return err
	}
	return w.put(":")
}

// between writes brackets, and count elements with commas between; element writes one, by its number.
func (w *writer) between(open, closing string, count int, element func(i int) api.Errno) api.Errno {
	err := w.put(open)
	for i := 0; i < count && err == api.OK; i++ {
		if i > 0 {
			err = w.put(",")
		}
		if err == api.OK {
			err = element(i)
		}
	}
	if err != api.OK {
		return err
	}
	return w.put(closing)
}
