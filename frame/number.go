package frame

import "wicket/api"

const (
	maxNumber = 10 // bytes of a written number
	moreBit   = 0x80
)

// PutUint: P1.2.
func PutUint(b []byte, n uint64) []byte {
	return appendUint(copyWithRoom(b, maxNumber), n)
}

// Uint: P1.2.
func Uint(b []byte) (uint64, int, api.Errno) {
	n := uint64(0)
	for i, x := range b {
		if i == maxNumber-1 && x > 1 {
			return 0, 0, api.ErrWide
		}
		if i > 0 && x == 0 {
			return 0, 0, api.ErrForm
		}
		n |= uint64(x&^moreBit) << uint(7*i)
		if x < moreBit {
			return n, i + 1, api.OK
		}
	}
	return 0, 0, api.ErrShort
}

// PutText: P1.3.
func PutText(b []byte, s string) []byte {
	out := copyWithRoom(b, maxNumber+len(s))
	out = appendUint(out, uint64(len(s)))
	return append(out, s...)
}

// Text: P1.3.
func Text(b []byte, most int) (string, int, api.Errno) {
	if most < 0 {
		return "", 0, api.ErrArg
	}
	n, top, err := Uint(b)
	if err != api.OK {
		return "", 0, err
	}
	if n > uint64(most) {
		return "", 0, api.ErrLong
	}
	// Held against what is left, and not added to top: the sum could wrap round.
	if n > uint64(len(b)-top) {
		return "", 0, api.ErrShort
	}
	end := top + int(n)
	return string(b[top:end]), end, api.OK
}

// appendUint may write into b's spare room: callers hand it memory of their own.
func appendUint(b []byte, n uint64) []byte {
	for n >= moreBit {
		b = append(b, byte(n)|moreBit)
		n >>= 7
	}
	return append(b, byte(n))
}

// copyWithRoom makes an answer's memory, so that nothing is ever appended in the caller's.
func copyWithRoom(b []byte, more int) []byte {
	out := make([]byte, len(b), len(b)+more)
	copy(out, b)
	return out
}
