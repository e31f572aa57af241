package store

import (
	"slices"

	"wicket/api"
)

// index leads from the text that a row has in one of its fields to the rows' numbers. A key is not the text itself, where it can be smaller and of one length.
type index[K comparable] struct {
	text    func(p api.Pending) string
	key     func(text string) (K, bool) // false: no row is found by that text
	numbers map[K][]uint64              // rising
}

func newIndex[K comparable](text func(p api.Pending) string, key func(text string) (K, bool)) index[K] {
	return index[K]{text: text, key: key, numbers: map[K][]uint64{}}
}

// find: the list is the index's own, and is not handed out.
func (x index[K]) find(text string) []uint64 {
	k, may := x.key(text)
	if !may {
		return nil
	}
	return x.numbers[k]
}

func (x index[K]) put(p api.Pending) {
	k, may := x.key(x.text(p))
	if !may {
		return
	}
	list := x.numbers[k]
	at, _ := slices.BinarySearch(list, p.Number)
	x.numbers[k] = slices.Insert(list, at, p.Number)
}

// remove takes out the number of a row that was put.
func (x index[K]) remove(p api.Pending) {
	k, may := x.key(x.text(p))
	if !may {
		return
	}
	list := x.numbers[k]
	if len(list) == 1 {
		delete(x.numbers, k)
		return
	}
	at, _ := slices.BinarySearch(list, p.Number)
	x.numbers[k] = slices.Delete(list, at, at+1)
}

func handleKey(text string) ([api.HandleSize]byte, bool) {
	var k [api.HandleSize]byte
	copy(k[:], text)
	return k, len(text) == len(k)
}

// codeKey: the empty code is none.
func codeKey(text string) ([api.CodeSize]byte, bool) {
	var k [api.CodeSize]byte
	copy(k[:], text)
	return k, len(text) == len(k)
}

func clientKey(text string) (string, bool) {
	return text, true
}

func handleText(p api.Pending) string { return p.Handle }
func codeText(p api.Pending) string   { return p.Code }
func clientText(p api.Pending) string { return p.Client }
