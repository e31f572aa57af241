// Package frame is layer 1: see shared/doc/01-frame.md.
package frame

import (
	"iter"

	"wicket/api"
)

// Where a frame's sum and kind stand; its length is ahead of them, its load behind.
const (
	sumAt  = 4
	kindAt = 8
)

// Seal: P1.4.
func Seal(kind byte, load []byte) ([]byte, api.Errno) {
	if kind == 0 {
		return nil, api.ErrKind
	}
	if len(load) > api.MaxLoad {
		return nil, api.ErrLong
	}
	b := make([]byte, api.FrameTop+len(load))
	putWord(b, uint32(len(load)))
	b[kindAt] = kind
	copy(b[api.FrameTop:], load)
	putWord(b[sumAt:], frameSum(b))
	return b, api.OK
}

// Open: P1.5.
func Open(b []byte) (api.Frame, int, api.Errno) {
	if len(b) < api.FrameTop {
		return api.Frame{}, 0, api.ErrShort
	}
	size := word(b)
	if size > api.MaxLoad {
		return api.Frame{}, 0, api.ErrLong
	}
	end := api.FrameTop + int(size)
	if len(b) < end {
		return api.Frame{}, 0, api.ErrShort
	}
	if word(b[sumAt:]) != frameSum(b[:end]) {
		return api.Frame{}, 0, api.ErrSum
	}
	if b[kindAt] == 0 {
		return api.Frame{}, 0, api.ErrKind
	}
	load := b[api.FrameTop:end:end]
	return api.Frame{Kind: b[kindAt], Load: copyWithRoom(load, 0)}, end, api.OK
}

// Scan: P1.6.
func Scan(b []byte) ([]api.Frame, int, api.Errno) {
	var frames []api.Frame
	at := 0
	for at < len(b) {
		f, n, err := Open(b[at:])
		if err != api.OK {
			return frames, at, err
		}
		frames = append(frames, f)
		at += n
	}
	return frames, at, api.OK
}

// Each: P1.7. It keeps bytes of its own, since the caller may change b before or while it is gone over.
func Each(b []byte) iter.Seq2[int, api.Frame] {
	kept := copyWithRoom(b, 0)
	return func(yield func(int, api.Frame) bool) {
		at := 0
		for at < len(kept) {
			f, n, err := Open(kept[at:])
			if err != api.OK || !yield(at, f) {
				return
			}
			at += n
		}
	}
}

// frameSum leaves out the four bytes in which the sum itself stands.
func frameSum(b []byte) uint32 {
	return CrcOn(Crc(b[:sumAt]), b[kindAt:])
}

func putWord(b []byte, w uint32) {
	for i := range 4 {
		b[i] = byte(w >> uint(8*i))
	}
}

func word(b []byte) uint32 {
	return uint32(b[0]) | uint32(b[1])<<8 | uint32(b[2])<<16 | uint32(b[3])<<24
}
