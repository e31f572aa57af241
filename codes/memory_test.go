package codes_test

import (
	"bytes"
	"runtime"
	"strings"
	"testing"
	"unsafe"

	"wicket/api"
	"wicket/codes"
)

// roomy gives p with spare room behind it, all of it filled, and the whole of that memory.
func roomy(p []byte) (list, whole []byte) {
	whole = append(bytes.Clone(p), bytes.Repeat([]byte{0xa5}, 5000)...)
	return whole[:len(p)], whole
}

// scribble turns every byte of a list, spare room too.
func scribble(p []byte) {
	p = p[:cap(p)]
	for i := range p {
		p[i] ^= 0xff
	}
}

// written is a text over these very bytes, so that whoever keeps the text is seen when they change.
func written(p []byte) string { return unsafe.String(unsafe.SliceData(p), len(p)) }

// Rule 3: draws are not changed, their spare room neither.
func TestDrawsAreNotChanged(t *testing.T) {
	for _, n := range []int{0, 1, 7, 8, 24, 32, 100, 4096, 4097, 6000} {
		list, whole := roomy(rising(0, n))
		kept := bytes.Clone(whole)
		s := codes.NewSource(list)
		s.Feed(list)
		codes.User(s)
		s.Feed(list)
		codes.Device(s)
		codes.Auth(s)
		s.Feed([]byte{1, 2, 3})
		rest(t, s)
		s.Feed(list)
		s.Feed([]byte{1, 2, 3})
		var none *codes.Source
		none.Feed(list)
		if !bytes.Equal(whole, kept) {
			t.Errorf("%d bytes were changed", n)
		}
	}
}

// Rule 3: draws are not kept, those of the first list neither.
func TestDrawsAreNotKept(t *testing.T) {
	for _, n := range []int{1, 8, 32, 100, 4096, 5000} {
		for _, ahead := range []int{0, 1, 50} {
			first, _ := roomy(rising(3, ahead))
			list, _ := roomy(rising(40, n))
			want := append(bytes.Clone(first), list...)
			s := codes.NewSource(first)
			s.Feed(list)
			scribble(first)
			scribble(list)
			holds(t, "behind scribbling", s, want[:min(len(want), 4096)])
		}
		list, _ := roomy(rising(40, n))
		want := bytes.Clone(list[:min(n, 4096)])
		s := codes.NewSource(list)
		scribble(list)
		holds(t, "behind scribbling", s, want)
	}
}

// Rule 3: the texts that are handed in are not changed, and answers are new memory: they stay when the arguments, or other answers, change.
func TestTextsAreNewMemory(t *testing.T) {
	calls := map[string]func(text string) string{
		"Show":   codes.Show,
		"Normal": func(text string) string { c, _ := codes.Normal(text); return c },
		"Handle": func(text string) string { h, _ := codes.Handle(1, text); return h },
	}
	for what, call := range calls {
		memory := []byte("BCDFGHJK")
		first, second := call(written(memory)), call(written(memory))
		if string(memory) != "BCDFGHJK" {
			t.Errorf("%s has changed its text: %q", what, memory)
		}
		want := strings.Clone(first)
		scribble(memory)
		if len(want) < 8 || first != want || second != want {
			t.Errorf("%s shares memory with its text: %q, %q, not %q", what, first, second, want)
		}
		scribble(unsafe.Slice(unsafe.StringData(first), len(first)))
		if second != want || call("BCDFGHJK") != want {
			t.Errorf("%s shares memory with another answer: %q, not %q", what, second, want)
		}
	}
	memory, handle := []byte("x"), []byte(sumOf(1, "x"))
	if !codes.Match(1, written(memory), written(handle)) || string(memory) != "x" || string(handle) != sumOf(1, "x") {
		t.Error("Match has changed its texts")
	}
}

// Rule 3: whoever writes into a code that was made changes no source and no other code, and no later call writes into it.
func TestCodesAreNewMemory(t *testing.T) {
	for what, m := range map[string]maker{"Device": codes.Device, "Auth": codes.Auth, "User": codes.User} {
		draws := bytes.Repeat(rising(60, 32), 4)
		s, other := codes.NewSource(draws), codes.NewSource(draws)
		want, _ := m(other)
		want = strings.Clone(want)
		kept, _ := m(s)
		spoilt, _ := m(s)
		scribble(unsafe.Slice(unsafe.StringData(spoilt), len(spoilt)))
		m(other)
		s.Feed(draws)
		other.Feed(draws)
		if kept != want {
			t.Errorf("%s: %q, not %q", what, kept, want)
		}
		if !bytes.Equal(rest(t, s), rest(t, other)) {
			t.Errorf("%s: what is left has changed", what)
		}
	}
}

// Rule 3: nil and an empty list are the same.
func TestNilDraws(t *testing.T) {
	for _, none := range [][]byte{nil, {}, make([]byte, 0, 10), rising(5, 10)[:0]} {
		s := codes.NewSource(none)
		dry(t, s)
		s.Feed(none)
		dry(t, s)
		s.Feed([]byte{9})
		s.Feed(none)
		holds(t, "one byte", s, []byte{9})
	}
}

// Rule 4: the same calls have the same answers.
func TestSameAgain(t *testing.T) {
	run := func() string {
		s := codes.NewSource(rising(200, 500))
		var all []string
		for range 6 {
			u, _ := codes.User(s)
			d, _ := codes.Device(s)
			a, _ := codes.Auth(s)
			h, _ := codes.Handle(1, d)
			n, _ := codes.Normal(codes.Show(u))
			all = append(all, u, d, a, h, n)
		}
		return strings.Join(all, "|")
	}
	want := run()
	for range 5 {
		if run() != want {
			t.Fatal("the same calls have other answers")
		}
	}
}

// A source that lives long does not grow: what was drawn is let go.
func TestWhatWasDrawnIsLetGo(t *testing.T) {
	s := codes.NewSource(make([]byte, 1000))
	piece := rising(0, 600)
	var before, behind runtime.MemStats
	runtime.GC()
	runtime.ReadMemStats(&before)
	for range 40000 {
		s.Feed(piece)
		for range 600 {
			s.Byte()
		}
	}
	runtime.GC()
	runtime.ReadMemStats(&behind)
	if held := int64(behind.HeapAlloc) - int64(before.HeapAlloc); held > 1<<20 {
		t.Errorf("%d bytes are held", held)
	}
	if s.Left() != 1000 {
		t.Errorf("%d left", s.Left())
	}
	if b, e := s.Byte(); e != api.OK || b != byte(200) {
		t.Errorf("Byte: %d, %d", b, e)
	}
}
