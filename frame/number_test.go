package frame_test

import (
	"bytes"
	"encoding/binary"
	"math"
	"math/rand"
	"testing"

	"wicket/api"
	"wicket/frame"
)

// edges: 0, both sides of each power of two, and the greatest.
func edges() []uint64 {
	l := []uint64{0, 300, math.MaxUint64}
	for i := range 64 {
		n := uint64(1) << i
		l = append(l, n-1, n, n+1)
	}
	return l
}

// manyNumbers: the edges and numbers of every length.
func manyNumbers() []uint64 {
	l, r := edges(), rand.New(rand.NewSource(3))
	for i := range 2000 {
		l = append(l, r.Uint64()>>(i%64))
	}
	return l
}

// P1.2, and the chapter's example 2.
func TestPutUint(t *testing.T) {
	for _, x := range []struct {
		n uint64
		b string
	}{
		{0, "\x00"}, {1, "\x01"}, {127, "\x7f"}, {128, "\x80\x01"}, {300, "\xac\x02"}, {16383, "\xff\x7f"}, {16384, "\x80\x80\x01"},
		{1 << 63, "\x80\x80\x80\x80\x80\x80\x80\x80\x80\x01"}, {math.MaxUint64, "\xff\xff\xff\xff\xff\xff\xff\xff\xff\x01"},
	} {
		for _, ahead := range []string{"", "a", "\x80\x80"} {
			if b := frame.PutUint([]byte(ahead), x.n); string(b) != ahead+x.b {
				t.Errorf("PutUint(%x, %d): %x", ahead, x.n, b)
			}
		}
	}
	if b := frame.PutUint(nil, 0); string(b) != "\x00" {
		t.Errorf("PutUint(nil, 0): %x", b)
	}
	for _, n := range manyNumbers() {
		if b := frame.PutUint(nil, n); !bytes.Equal(b, binary.AppendUvarint(nil, n)) {
			t.Errorf("PutUint(none, %d): %x", n, b)
		}
	}
}

// P1.2, and the chapter's example 2.
func TestUintExamples(t *testing.T) {
	nine80, nineFf := string(bytes.Repeat([]byte{0x80}, 9)), string(bytes.Repeat([]byte{0xff}, 9))
	for _, x := range []struct {
		b string
		n uint64
		k int
		e api.Errno
	}{
		{"\x00", 0, 1, api.OK}, {"\x00\x00", 0, 1, api.OK}, {"\xac\x02\xff", 300, 2, api.OK}, {"\xac\x02\x00", 300, 2, api.OK},
		{"\x80\x80\x01", 16384, 3, api.OK},
		{nineFf + "\x01", math.MaxUint64, 10, api.OK}, {nineFf + "\x01\xff", math.MaxUint64, 10, api.OK}, {nine80 + "\x01", 1 << 63, 10, api.OK},
		{"", 0, 0, api.ErrShort}, {"\x80", 0, 0, api.ErrShort}, {"\xff\xff", 0, 0, api.ErrShort}, {nine80, 0, 0, api.ErrShort}, {nineFf, 0, 0, api.ErrShort},
		{nineFf + "\x02", 0, 0, api.ErrWide}, {nine80 + "\x02", 0, 0, api.ErrWide}, {nine80 + "\x7f", 0, 0, api.ErrWide},
		{nine80 + "\x80", 0, 0, api.ErrWide}, {nine80 + "\x81\x00", 0, 0, api.ErrWide}, {nineFf + "\xff\x01", 0, 0, api.ErrWide},
		{"\x80\x00", 0, 0, api.ErrForm}, {"\xff\x00\x01", 0, 0, api.ErrForm}, {"\x80\x80\x00", 0, 0, api.ErrForm},
		{nine80 + "\x00", 0, 0, api.ErrForm}, {nineFf + "\x00", 0, 0, api.ErrForm}, {nine80[1:] + "\x00", 0, 0, api.ErrForm},
	} {
		if n, k, e := frame.Uint([]byte(x.b)); n != x.n || k != x.k || e != x.e {
			t.Errorf("Uint(%x): %d %d %d", x.b, n, k, e)
		}
	}
	if n, k, e := frame.Uint(nil); n != 0 || k != 0 || e != api.ErrShort {
		t.Errorf("Uint(nil): %d %d %d", n, k, e)
	}
}

// slowUint reads by the chapter's words, a byte after the other.
func slowUint(b []byte) (uint64, int, api.Errno) {
	n, weight := uint64(0), uint64(1)
	for i := 0; ; i++ {
		switch {
		case i >= len(b):
			return 0, 0, api.ErrShort
		case i+1 == 10 && b[i] > 1:
			return 0, 0, api.ErrWide
		case b[i] == 0 && i != 0:
			return 0, 0, api.ErrForm
		}
		n += uint64(b[i]%128) * weight
		weight *= 128
		if b[i] < 128 {
			return n, i + 1, api.OK
		}
	}
}

// P1.2: all beginnings of two bytes, and many of up to twelve.
func TestUintIsTheRule(t *testing.T) {
	check := func(b []byte) {
		n, k, e := frame.Uint(b)
		if wn, wk, we := slowUint(b); n != wn || k != wk || e != we {
			t.Errorf("Uint(%x): %d %d %d, not %d %d %d", b, n, k, e, wn, wk, we)
		}
	}
	for i := range 1 << 16 {
		check([]byte{byte(i), byte(i >> 8)})
	}
	r := rand.New(rand.NewSource(4))
	for i := range 100000 {
		b := drawn(r, i%13)
		for j := range b {
			if r.Intn(12) > 0 {
				b[j] |= 0x80
			} else if r.Intn(2) == 0 {
				b[j] = byte(r.Intn(3))
			}
		}
		check(b)
	}
}

// P1.3, and the chapter's example 3.
func TestPutText(t *testing.T) {
	long := string(bytes.Repeat([]byte("x"), 300))
	for _, x := range []struct{ b, s, want string }{
		{"", "ab", "\x02ab"}, {"", "", "\x00"}, {"q", "", "q\x00"}, {"\x02", "\x00\xff\x80", "\x02\x03\x00\xff\x80"}, {"q", long, "q\xac\x02" + long},
	} {
		if b := frame.PutText([]byte(x.b), x.s); string(b) != x.want {
			t.Errorf("PutText(%x, %q): %x", x.b, x.s, b)
		}
	}
	if b := frame.PutText(nil, "ab"); string(b) != "\x02ab" {
		t.Errorf("PutText(nil, ab): %x", b)
	}
}

// P1.3, and the chapter's example 3: where several errors apply, the first one named.
func TestText(t *testing.T) {
	greatest := "\xff\xff\xff\xff\xff\xff\xff\xff\xff\x01"
	greatestInt := "\xff\xff\xff\xff\xff\xff\xff\xff\x7f"
	for _, x := range []struct {
		b    string
		most int
		s    string
		k    int
		e    api.Errno
	}{
		{"\x02ab", 2, "ab", 3, api.OK}, {"\x02ab", math.MaxInt, "ab", 3, api.OK}, {"\x02abc", 9, "ab", 3, api.OK},
		{"\x00", 0, "", 1, api.OK}, {"\x00a", 5, "", 1, api.OK}, {"\x02\xff\x00", 2, "\xff\x00", 3, api.OK},
		{"\x02ab", -1, "", 0, api.ErrArg}, {"\x00", -1, "", 0, api.ErrArg}, {"", -1, "", 0, api.ErrArg},
		{"\x80\x00", math.MinInt, "", 0, api.ErrArg}, {"\x02a", -1, "", 0, api.ErrArg},
		{"", 0, "", 0, api.ErrShort}, {"\x80", 9, "", 0, api.ErrShort}, {"\x80\x00", 0, "", 0, api.ErrForm},
		{"\xff\xff\xff\xff\xff\xff\xff\xff\xff\x02", 0, "", 0, api.ErrWide},
		{"\x02ab", 1, "", 0, api.ErrLong}, {"\x02a", 1, "", 0, api.ErrLong}, {"\x01a", 0, "", 0, api.ErrLong},
		{greatest, math.MaxInt, "", 0, api.ErrLong}, {greatest + "ab", 2, "", 0, api.ErrLong},
		{"\x02a", 9, "", 0, api.ErrShort}, {"\x02", 2, "", 0, api.ErrShort}, {greatestInt + "ab", math.MaxInt, "", 0, api.ErrShort},
	} {
		if s, k, e := frame.Text([]byte(x.b), x.most); s != x.s || k != x.k || e != x.e {
			t.Errorf("Text(%x, %d): %q %d %d", x.b, x.most, s, k, e)
		}
	}
	if s, k, e := frame.Text(nil, 1); s != "" || k != 0 || e != api.ErrShort {
		t.Errorf("Text(nil, 1): %q %d %d", s, k, e)
	}
}

// P1.8: numbers there and back, whatever stands behind.
func TestNumbersThereAndBack(t *testing.T) {
	for _, n := range manyNumbers() {
		for _, behind := range []string{"", "\x00", "\x80", "\xff\xff"} {
			b := frame.PutUint(nil, n)
			got, k, e := frame.Uint(joined(b, []byte(behind)))
			if got != n || k != len(b) || e != api.OK {
				t.Errorf("%d, %x behind: %d %d %d", n, behind, got, k, e)
			}
		}
	}
}

// P1.8: texts there and back, whatever stands behind, with a most that is their length or more.
func TestTextsThereAndBack(t *testing.T) {
	r := rand.New(rand.NewSource(5))
	for _, n := range []int{0, 1, 2, 127, 128, 129, 16383, 16384, 70000} {
		s := string(drawn(r, n))
		b := frame.PutText(nil, s)
		for _, most := range []int{n, n + 1, math.MaxInt} {
			for _, behind := range []string{"", "\x00", "\xff\xff"} {
				got, k, e := frame.Text(joined(b, []byte(behind)), most)
				if got != s || k != len(b) || e != api.OK {
					t.Errorf("text of %d, most %d: %d bytes %d %d", n, most, len(got), k, e)
				}
			}
		}
		if got, k, e := frame.Text(b, n-1); got != "" || k != 0 || e == api.OK {
			t.Errorf("text of %d, most one less: %d bytes %d %d", n, len(got), k, e)
		}
	}
}

// P1.8: what Uint and Text read is, byte by byte, what would be written of it.
func TestWhatIsReadIsWhatIsWritten(t *testing.T) {
	r := rand.New(rand.NewSource(6))
	for i := range 1 << 16 {
		b := []byte{byte(i), byte(i >> 8), byte(r.Intn(256)), byte(r.Intn(4))}
		if n, k, e := frame.Uint(b); e == api.OK && !bytes.Equal(frame.PutUint(nil, n), b[:k]) {
			t.Errorf("Uint(%x) read %d of %d bytes", b, n, k)
		}
		if s, k, e := frame.Text(b, 9); e == api.OK && !bytes.Equal(frame.PutText(nil, s), b[:k]) {
			t.Errorf("Text(%x) read %q of %d bytes", b, s, k)
		}
	}
}
