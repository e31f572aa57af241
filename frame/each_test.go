package frame_test

import (
	"bytes"
	"iter"
	"math/rand"
	"testing"

	"wicket/api"
	"wicket/frame"
)

// told goes over a sequence once.
func told(each iter.Seq2[int, api.Frame]) ([]int, []api.Frame) {
	var places []int
	var frames []api.Frame
	for at, f := range each {
		places, frames = append(places, at), append(frames, f)
	}
	return places, frames
}

// goesOver: each goes over these frames, at the places at which they begin.
func goesOver(t *testing.T, each iter.Seq2[int, api.Frame], want []api.Frame) {
	t.Helper()
	places, frames := told(each)
	if !sameFrames(frames, want) {
		t.Fatalf("%d frames, not %d", len(frames), len(want))
	}
	begin := 0
	for i, f := range want {
		if places[i] != begin {
			t.Errorf("frame %d at %d, not %d", i, places[i], begin)
		}
		begin += api.FrameTop + len(f.Load)
	}
}

// P1.7: the same frames as Scan tells, whatever is left behind them.
func TestEachGoesOverTheSame(t *testing.T) {
	r := rand.New(rand.NewSource(21))
	for count := range 12 {
		frames, b := file(t, r, count)
		for _, left := range [][]byte{nil, {1}, make([]byte, 9), []byte("\x01\x00\x20\x00\x00\x00\x00\x00\x01"), laid(0, []byte("ab")), sealed(t, 1, []byte("torn"))[:11]} {
			goesOver(t, frame.Each(joined(b, left)), frames)
		}
		turned := laid(7, []byte("turned"))
		turned[9] ^= 1
		goesOver(t, frame.Each(joined(b, turned, b)), frames)
	}
	goesOver(t, frame.Each(nil), nil)
}

// P1.7: b as it was when Each was called, however it is changed afterwards.
func TestEachKeepsWhatWas(t *testing.T) {
	frames, b := file(t, rand.New(rand.NewSource(22)), 9)
	each := frame.Each(b)
	for range each {
		scribble(b)
	}
	goesOver(t, each, frames)
	scribble(b)
	clear(b)
	goesOver(t, each, frames)
}

// P1.7: left at any time, and gone over again from the beginning.
func TestEachMayBeLeft(t *testing.T) {
	frames, b := file(t, rand.New(rand.NewSource(23)), 6)
	each := frame.Each(b)
	for stop := range len(frames) {
		seen := 0
		for range each {
			if seen++; seen > stop {
				break
			}
		}
		if seen != stop+1 {
			t.Errorf("left behind %d, saw %d", stop+1, seen)
		}
		goesOver(t, each, frames)
	}
}

// P1.7: one within another of the same sequence.
func TestEachMayBeNested(t *testing.T) {
	frames, b := file(t, rand.New(rand.NewSource(24)), 5)
	each := frame.Each(b)
	i := 0
	for _, outer := range each {
		goesOver(t, each, frames)
		for range each {
			break
		}
		if !sameFrame(outer, frames[i]) {
			t.Errorf("outer %d: %v", i, outer)
		}
		i++
	}
	if i != len(frames) {
		t.Errorf("outer ended behind %d", i)
	}
}

// P1.7 and rule 3: a load that was told is the caller's own.
func TestEachTellsNewMemory(t *testing.T) {
	frames, b := file(t, rand.New(rand.NewSource(25)), 9)
	each := frame.Each(b)
	for _, f := range each {
		scribble(f.Load)
	}
	goesOver(t, each, frames)
	_, first := told(each)
	_, second := told(each)
	for i := range first {
		kept := bytes.Clone(second[i].Load)
		scribble(first[i].Load)
		if !bytes.Equal(second[i].Load, kept) {
			t.Errorf("two tellings share load %d", i)
		}
	}
}
