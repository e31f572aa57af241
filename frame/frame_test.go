package frame_test

import (
	"bytes"
	"math/rand"
	"testing"

	"wicket/api"
	"wicket/frame"
)

// P1.4, and the chapter's example 4.
func TestSeal(t *testing.T) {
	r := rand.New(rand.NewSource(7))
	for _, n := range []int{0, 1, 2, 3, 255, 256, 257, 65535, 65536} {
		for _, kind := range []byte{1, 2, 127, 128, 255} {
			load := drawn(r, n)
			if b, e := frame.Seal(kind, load); !bytes.Equal(b, laid(kind, load)) || e != api.OK {
				t.Errorf("Seal(%d, %d bytes): %d bytes, %d", kind, n, len(b), e)
			}
		}
	}
	for _, none := range [][]byte{nil, {}} {
		b, e := frame.Seal(1, none)
		if len(b) != api.FrameTop || string(b[:4]) != "\x00\x00\x00\x00" || b[8] != 1 || e != api.OK {
			t.Errorf("Seal(1, none): %x %d", b, e)
		}
	}
}

// P1.4: wrong kinds and loads; of both errors the first.
func TestSealRefuses(t *testing.T) {
	long := make([]byte, api.MaxLoad+1)
	for _, x := range []struct {
		kind byte
		load []byte
		e    api.Errno
	}{
		{0, nil, api.ErrKind}, {0, []byte("a"), api.ErrKind}, {0, long, api.ErrKind}, {1, long, api.ErrLong}, {255, long, api.ErrLong},
	} {
		if b, e := frame.Seal(x.kind, x.load); len(b) != 0 || e != x.e {
			t.Errorf("Seal(%d, %d bytes): %d bytes, %d", x.kind, len(x.load), len(b), e)
		}
	}
}

// P1.4, P1.5, P1.8: the longest load there is.
func TestLongestLoad(t *testing.T) {
	load := drawn(rand.New(rand.NewSource(8)), api.MaxLoad)
	b := sealed(t, 200, load)
	if string(b[:4]) != "\x00\x00\x20\x00" || len(b) != api.FrameTop+api.MaxLoad {
		t.Errorf("%x, %d bytes", b[:4], len(b))
	}
	f, n, e := frame.Open(append(b, 1))
	if f.Kind != 200 || !bytes.Equal(f.Load, load) || n != len(b) || e != api.OK {
		t.Errorf("Open: %d, %d bytes, %d %d", f.Kind, len(f.Load), n, e)
	}
	if _, _, e := frame.Open(b[:len(b)-1]); e != api.ErrShort {
		t.Errorf("one byte less: %d", e)
	}
}

func openRefuses(t *testing.T, b []byte, want api.Errno) {
	t.Helper()
	f, n, e := frame.Open(b)
	if f.Kind != 0 || len(f.Load) != 0 || n != 0 || e != want {
		t.Errorf("Open(%.20x ..): %d %x %d, %d and not %d", b, f.Kind, f.Load, n, e, want)
	}
}

// P1.5, and the chapter's example 5: of several errors the first.
func TestOpenRefuses(t *testing.T) {
	openRefuses(t, nil, api.ErrShort)
	openRefuses(t, make([]byte, 8), api.ErrShort)
	openRefuses(t, []byte("\xff\xff\xff\xff\xff\xff\xff\xff"), api.ErrShort)
	openRefuses(t, make([]byte, 9), api.ErrSum)
	openRefuses(t, []byte("\x01\x00\x20\x00\x00\x00\x00\x00\x01"), api.ErrLong)
	openRefuses(t, []byte("\xff\xff\xff\xff\x00\x00\x00\x00\x00"), api.ErrLong)
	openRefuses(t, []byte("\x00\x00\x00\x80\x00\x00\x00\x00\x01"), api.ErrLong)
	openRefuses(t, []byte("\x00\x00\x20\x00\x00\x00\x00\x00\x00"), api.ErrShort)
	openRefuses(t, []byte("\x01\x00\x00\x00\x00\x00\x00\x00\x00"), api.ErrShort)
	openRefuses(t, laid(1, make([]byte, api.MaxLoad+1)), api.ErrLong)
	openRefuses(t, laid(0, nil), api.ErrKind)
	openRefuses(t, laid(0, []byte("ab")), api.ErrKind)
	openRefuses(t, joined(laid(0, []byte("ab")), laid(1, nil)), api.ErrKind)
	turned := laid(0, []byte("ab"))
	turned[10] ^= 1
	openRefuses(t, turned, api.ErrSum)
}

// P1.5: a frame that says another length than it has.
func TestOpenOfAnotherLength(t *testing.T) {
	b := laid(1, []byte("abcdef"))
	for n := range 6 {
		b[0] = byte(n)
		openRefuses(t, b, api.ErrSum)
	}
	b[0] = 7
	openRefuses(t, b, api.ErrShort)
	openRefuses(t, append(b, 0), api.ErrSum)
}

// P1.5, P1.8: frames there and back, whatever stands behind.
func TestFramesThereAndBack(t *testing.T) {
	r := rand.New(rand.NewSource(9))
	for kind := 1; kind < 256; kind++ {
		want := api.Frame{Kind: byte(kind), Load: drawn(r, kind%40)}
		b := sealed(t, want.Kind, want.Load)
		for _, behind := range []string{"", "\x00", "\xff\xff\xff\xff\xff\xff\xff\xff\xff\xff"} {
			f, n, e := frame.Open(joined(b, []byte(behind)))
			if !sameFrame(f, want) || n != len(b) || e != api.OK {
				t.Errorf("kind %d, %x behind: %v %d %d", kind, behind, f, n, e)
			}
		}
	}
}

// P1.8: what Open reads is, byte by byte, what would be written of it.
func TestWhatIsOpenedIsWhatIsSealed(t *testing.T) {
	r := rand.New(rand.NewSource(10))
	for range 2000 {
		load := drawn(r, r.Intn(30))
		b := append(laid(byte(r.Intn(256)), load), drawn(r, r.Intn(3))...)
		if r.Intn(2) == 0 {
			b[r.Intn(len(b))] ^= 1 << r.Intn(8)
		}
		f, n, e := frame.Open(b)
		if e != api.OK {
			continue
		}
		if again := sealed(t, f.Kind, f.Load); !bytes.Equal(again, b[:n]) {
			t.Errorf("Open(%x): %v %d", b, f, n)
		}
	}
}

func scans(t *testing.T, b []byte, want []api.Frame, whole int, why api.Errno) {
	t.Helper()
	l, n, e := frame.Scan(b)
	if !sameFrames(l, want) || n != whole || e != why {
		t.Errorf("Scan of %d bytes: %d frames, %d, %d; not %d, %d, %d", len(b), len(l), n, e, len(want), whole, why)
	}
}

// P1.6, and the chapter's examples 5 and 6.
func TestScan(t *testing.T) {
	scans(t, nil, nil, 0, api.OK)
	scans(t, []byte{}, nil, 0, api.OK)
	two := []api.Frame{{Kind: 3, Load: []byte("ab")}}
	b := sealed(t, 3, []byte("ab"))
	scans(t, b, two, 11, api.OK)
	scans(t, joined(b, []byte{1, 2, 3}), two, 11, api.ErrShort)
	scans(t, []byte{1, 2, 3}, nil, 0, api.ErrShort)
	scans(t, joined(b, b), append(two, two...), 22, api.OK)
}

// P1.6: Open's error of what is left, with the frames and the bytes ahead of it; what is whole behind it is not told.
func TestScanStops(t *testing.T) {
	frames, b := file(t, rand.New(rand.NewSource(11)), 7)
	whole := sealed(t, 5, []byte("behind"))
	turned := laid(5, []byte("turned"))
	turned[12] ^= 16
	for _, x := range []struct {
		left []byte
		e    api.Errno
	}{
		{[]byte{1}, api.ErrShort}, {make([]byte, 8), api.ErrShort}, {make([]byte, 9), api.ErrSum}, {make([]byte, 30), api.ErrSum},
		{[]byte("\x01\x00\x20\x00\x00\x00\x00\x00\x01"), api.ErrLong}, {laid(0, []byte("none")), api.ErrKind}, {turned, api.ErrSum},
	} {
		scans(t, joined(b, x.left), frames, len(b), x.e)
		scans(t, x.left, nil, 0, x.e)
		if len(x.left) >= api.FrameTop {
			scans(t, joined(b, x.left, whole), frames, len(b), x.e)
		}
	}
}

// P1.8: Scan of frames one behind the other tells them all.
func TestScanTellsAll(t *testing.T) {
	r := rand.New(rand.NewSource(12))
	for count := range 60 {
		frames, b := file(t, r, count)
		scans(t, b, frames, len(b), api.OK)
	}
}

// P1.9: of frames and a proper beginning of one more, the frames and ErrShort.
func TestTornIsTold(t *testing.T) {
	r := rand.New(rand.NewSource(13))
	for count := range 4 {
		frames, b := file(t, r, count)
		for _, n := range []int{0, 1, 2, 40, 300} {
			more := sealed(t, 9, drawn(r, n))
			for cut := 1; cut < len(more); cut++ {
				scans(t, joined(b, more[:cut]), frames, len(b), api.ErrShort)
			}
		}
	}
	longest := sealed(t, 9, make([]byte, api.MaxLoad))
	for _, cut := range []int{1, 8, 9, 10, api.MaxLoad, len(longest) - 1} {
		scans(t, longest[:cut], nil, 0, api.ErrShort)
	}
}

// turn turns bits of b from the bit at on, as far as b has them; the lowest of b's first byte is bit 0.
func turn(b []byte, at int, bits uint32) {
	for i := range 32 {
		if bits>>i&1 == 1 && (at+i)/8 < len(b) {
			b[(at+i)/8] ^= 1 << ((at + i) % 8)
		}
	}
}

// P1.10: bits turned in kind and load, within 32 neighbours, at every place. Each pattern has its lowest bit, so that it turns one wherever it is laid.
func TestTurnedIsTold(t *testing.T) {
	r := rand.New(rand.NewSource(14))
	for _, n := range []int{0, 1, 3, 4, 9, 100} {
		b := sealed(t, byte(1+r.Intn(255)), drawn(r, n))
		part := b[8:]
		for at := range len(part) * 8 {
			patterns := []uint32{1, 3, 0x80000001, 0xffffffff, 0xedb88321, 0xdb710641, 0x04c11db7}
			for range 300 {
				patterns = append(patterns, r.Uint32()|1)
			}
			for _, bits := range patterns {
				turn(part, at, bits)
				openRefuses(t, b, api.ErrSum)
				turn(part, at, bits)
			}
		}
	}
}

// P1.10: all changes of kind and load of a frame that has 24 bits of them.
func TestEveryTurnOfAShortFrameIsTold(t *testing.T) {
	b := sealed(t, 77, []byte{0x0f, 0xc3})
	kept := append([]byte{}, b...)
	for bits := 1; bits < 1<<24; bits++ {
		b[8], b[9], b[10] = kept[8]^byte(bits), kept[9]^byte(bits>>8), kept[10]^byte(bits>>16)
		if _, _, e := frame.Open(b); e != api.ErrSum {
			t.Fatalf("turned by %06x: %d", bits, e)
		}
	}
}

// P1.10: a kind that is turned to none is told by the sum.
func TestKindTurnedToNone(t *testing.T) {
	for kind := 1; kind < 256; kind++ {
		b := sealed(t, byte(kind), []byte("load"))
		b[8] = 0
		openRefuses(t, b, api.ErrSum)
	}
}

// P1.10: any bits of the sum.
func TestTurnedSumIsTold(t *testing.T) {
	r := rand.New(rand.NewSource(15))
	for _, n := range []int{0, 5, 60} {
		b := sealed(t, 1, drawn(r, n))
		var patterns []uint32
		for i := range 32 {
			patterns = append(patterns, 1<<i)
		}
		for i := 1; i < 1<<16; i++ {
			patterns = append(patterns, uint32(i), uint32(i)<<16)
		}
		for _, bits := range append(patterns, 0xffffffff, 0xedb88320) {
			turn(b[4:8], 0, bits)
			openRefuses(t, b, api.ErrSum)
			turn(b[4:8], 0, bits)
		}
	}
}
