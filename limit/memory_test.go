package limit_test

import (
	"cmp"
	"fmt"
	"runtime"
	"slices"
	"strings"
	"testing"
	"unsafe"

	"wicket/api"
)

// span is a piece of memory, from low up to high.
type span struct{ low, high uintptr }

func textSpan(s string) span {
	low := uintptr(unsafe.Pointer(unsafe.StringData(s)))
	return span{low, low + uintptr(len(s))}
}

// listSpans are the memory of a list, spare room too, and of its texts.
func listSpans(list []string) []span {
	low := uintptr(unsafe.Pointer(unsafe.SliceData(list)))
	spans := []span{{low, low + uintptr(cap(list))*unsafe.Sizeof("")}}
	for _, s := range list {
		spans = append(spans, textSpan(s))
	}
	return spans
}

// apart: do no two of the spans share a byte?
func apart(groups ...[]span) bool {
	all := slices.Concat(groups...)
	all = slices.DeleteFunc(all, func(s span) bool { return s.low == s.high })
	slices.SortFunc(all, func(a, b span) int { return cmp.Compare(a.low, b.low) })
	for i := 1; i < len(all); i++ {
		if all[i].low < all[i-1].high {
			return false
		}
	}
	return true
}

// Rule 3: a subject that was handed in is not kept, by its first attempt or by a later one, nor changed.
func TestSubjectsAreNotKept(t *testing.T) {
	memory := []byte("abcdabcd")
	name := func(i int) string { return unsafe.String(&memory[i], 1) }
	l := made(t, 3, 10, 3)
	tries(t, l, name(0), 0, 2, api.OK)
	tries(t, l, name(1), 0, 2, api.OK)
	tries(t, l, name(5), 0, 1, api.OK)
	tries(t, l, name(2), 0, 2, api.OK)
	tries(t, l, name(6), 0, 1, api.OK)
	tries(t, l, name(2), 0, 0, api.OK)
	tries(t, l, name(6), 0, 0, api.ErrSpent)
	tries(t, l, name(3), 0, 0, api.ErrFull)
	leaves(t, l, name(4), 0, 2, 0)
	leaves(t, l, name(7), 0, 0, 10)
	if string(memory) != "abcdabcd" {
		t.Errorf("changed: %q", memory)
	}
	copy(memory, "~~~~~~~~")
	knows(t, l, "a", "b", "c")
	leaves(t, l, "a", 0, 2, 0)
	leaves(t, l, "b", 0, 1, 0)
	leaves(t, l, "c", 0, 0, 10)
	forgives(t, l, "a", true)
	forgives(t, l, "b", true)
	forgives(t, l, "c", true)
	sweeps(t, l, 0, 0)
}

// Rule 3: an answer is new memory: it shares none with an argument, with another answer, within itself, or with what is kept.
func TestAnswersAreNewMemory(t *testing.T) {
	l := made(t, 3, 10, 50)
	var handed []span
	for i := range 50 {
		name := strings.Clone(fmt.Sprint("subject ", i))
		tries(t, l, name, 0, 2, api.OK)
		handed = append(handed, textSpan(name))
	}
	first, second := l.Subjects(), l.Subjects()
	for _, s := range first {
		tries(t, l, s, 0, 1, api.OK)
	}
	if !apart(handed, listSpans(first), listSpans(second), listSpans(l.Subjects())) {
		t.Error("answers share memory")
	}
}

// Rule 3: whoever writes into an answer, or behind it, changes no limit and no other answer; and no later call writes into one.
func TestAnswersAreNobodyElses(t *testing.T) {
	l := example(t)
	tries(t, l, "beta", 0, 1, api.OK)
	tries(t, l, "alpha", 0, 1, api.OK)
	kept := l.Subjects()
	spoilt := l.Subjects()
	for _, s := range spoilt {
		copy(unsafe.Slice(unsafe.StringData(s), len(s)), "~~~~~")
	}
	for i := range spoilt[:cap(spoilt)] {
		spoilt[:cap(spoilt)][i] = "scribbled"
	}
	knows(t, l, "alpha", "beta")
	leaves(t, l, "alpha", 0, 1, 0)
	tries(t, l, "beta", 0, 0, api.OK)
	forgives(t, l, "alpha", true)
	tries(t, l, "gamma", 3, 1, api.OK)
	sweeps(t, l, 100, 0)
	l.Clear()
	if !slices.Equal(kept, []string{"alpha", "beta"}) {
		t.Errorf("an answer has changed: %q", kept)
	}
}

// Windows that are over are let go: a limit that lives long does not grow.
func TestWhatIsOverIsLetGo(t *testing.T) {
	l := made(t, 1, 1, api.MaxSubjects)
	var before, behind runtime.MemStats
	runtime.GC()
	runtime.ReadMemStats(&before)
	for i := range uint64(100000) {
		tries(t, l, fmt.Sprintf("%0256d", i), i/1000, 0, api.OK)
	}
	runtime.GC()
	runtime.ReadMemStats(&behind)
	if held := int64(behind.HeapAlloc) - int64(before.HeapAlloc); held > 4<<20 {
		t.Errorf("%d bytes are held", held)
	}
	sweeps(t, l, 0, 1000)
}
