package frame_test

import (
	"bytes"
	"testing"

	"wicket/api"
	"wicket/frame"
)

// answersOf calls every function of the package that answers lists, on b, and gives each list that it answered.
func answersOf(b []byte) [][]byte {
	sealed, _ := frame.Seal(1, b)
	opened, _, _ := frame.Open(b)
	out := [][]byte{frame.PutUint(b, 1<<40), frame.PutUint(b, 5), frame.PutText(b, "text"), frame.PutText(b, ""), sealed, opened.Load}
	scanned, _, _ := frame.Scan(b)
	for _, f := range scanned {
		out = append(out, f.Load)
	}
	for _, f := range frame.Each(b) {
		out = append(out, f.Load)
	}
	return out
}

func copies(l [][]byte) [][]byte {
	var out [][]byte
	for _, p := range l {
		out = append(out, bytes.Clone(p))
	}
	return out
}

func inputs(t *testing.T) [][]byte {
	one := sealed(t, 1, []byte("one"))
	return [][]byte{
		{}, []byte("plain"), []byte("\x02ab"), []byte("\x80\x00"), []byte("\xff\xff\xff\xff\xff\xff\xff\xff\xff\x02"), make([]byte, 9),
		one, joined(one, sealed(t, 2, nil), sealed(t, 3, []byte("three"))), joined(one, one[:5]), laid(0, []byte("none")),
	}
}

// Rule 3: arguments are not changed, their spare room neither.
func TestArgumentsAreNotChanged(t *testing.T) {
	for _, p := range inputs(t) {
		list, whole := roomy(p)
		kept := bytes.Clone(whole)
		frame.Crc(list)
		frame.CrcOn(7, list)
		frame.Uint(list)
		frame.Text(list, 100)
		frame.Text(list, -1)
		frame.Seal(0, list)
		answersOf(list)
		if !bytes.Equal(whole, kept) {
			t.Errorf("%x became %x", kept, whole)
		}
	}
}

// Rule 3: an answer shares no memory, spare room too, with the argument.
func TestAnswersAreNewMemory(t *testing.T) {
	for _, p := range inputs(t) {
		list, whole := roomy(p)
		kept := bytes.Clone(whole)
		for _, a := range answersOf(list) {
			scribble(a)
		}
		if !bytes.Equal(whole, kept) {
			t.Errorf("an answer was written into %x", kept)
		}
		answers := answersOf(list)
		were := copies(answers)
		scribble(whole)
		for i, a := range answers {
			if !bytes.Equal(a, were[i]) {
				t.Errorf("answer %d of %x changed with the argument", i, kept)
			}
		}
	}
}

// Rule 3: no two answers share memory, spare room too, nor two lists of one answer.
func TestAnswersShareNothing(t *testing.T) {
	for _, p := range inputs(t) {
		list, _ := roomy(p)
		answers := append(answersOf(list), answersOf(list)...)
		for i, a := range answers {
			were := copies(answers)
			scribble(a)
			for j, other := range answers {
				if j != i && !bytes.Equal(other, were[j]) {
					t.Errorf("answers %d and %d of %x share memory", i, j, p)
				}
			}
		}
	}
}

// Rule 3: appending to a load that was told reaches no other.
func TestLoadsMayGrow(t *testing.T) {
	b := joined(sealed(t, 1, []byte("one")), sealed(t, 2, []byte("two")))
	list, whole := roomy(b)
	kept := bytes.Clone(whole)
	frames, _, _ := frame.Scan(list)
	for _, f := range frames {
		_ = append(f.Load, "0123456789"...)
	}
	f, _, _ := frame.Open(list)
	_ = append(f.Load, "0123456789"...)
	if !bytes.Equal(whole, kept) || string(frames[1].Load) != "two" {
		t.Errorf("a load grew into %x, %s", whole, frames[1].Load)
	}
}

// Rule 3: the list of frames itself is new with each call.
func TestFrameListsAreNew(t *testing.T) {
	b := joined(sealed(t, 1, []byte("one")), sealed(t, 2, nil), sealed(t, 3, nil))
	first, _, _ := frame.Scan(b)
	second, _, _ := frame.Scan(b)
	clear(first[:cap(first)])
	if len(second) != 3 || !sameFrame(second[0], api.Frame{Kind: 1, Load: []byte("one")}) {
		t.Errorf("two lists share memory: %v", second)
	}
}

// Rule 3: nil and an empty list are the same where they are handed in.
func TestNilIsEmpty(t *testing.T) {
	if !bytes.Equal(frame.PutUint(nil, 300), frame.PutUint([]byte{}, 300)) || !bytes.Equal(frame.PutText(nil, "a"), frame.PutText([]byte{}, "a")) {
		t.Error("PutUint or PutText tells nil from empty")
	}
	if !bytes.Equal(sealed(t, 1, nil), sealed(t, 1, []byte{})) {
		t.Error("Seal tells nil from empty")
	}
}

// Rule 4: what spare room an argument has is not to be seen in an answer.
func TestSpareRoomIsNotSeen(t *testing.T) {
	for _, p := range inputs(t) {
		list, _ := roomy(p)
		tight := bytes.Clone(p)
		a, b := answersOf(list), answersOf(tight[:len(tight):len(tight)])
		if len(a) != len(b) {
			t.Fatalf("%x: %d answers and %d", p, len(a), len(b))
		}
		for i := range a {
			if !bytes.Equal(a[i], b[i]) {
				t.Errorf("%x: answer %d: %x and %x", p, i, a[i], b[i])
			}
		}
	}
}
