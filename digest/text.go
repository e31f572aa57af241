package digest

import "wicket/api"

const (
	digits64 = "ABCDEFGHIJKLMNOPQRSTUVWXYZabcdefghijklmnopqrstuvwxyz0123456789-_"
	digits16 = "0123456789abcdef"
)

// Base64: P2.8.
func Base64(p []byte) string {
	out := make([]byte, 0, (8*len(p)+5)/6)
	bits, count := uint32(0), uint(0)
	for _, x := range p {
		bits, count = bits<<8|uint32(x), count+8
		for count >= 6 {
			count -= 6
			out = append(out, digits64[bits>>count&63])
		}
	}
	if count > 0 {
		out = append(out, digits64[bits<<(6-count)&63])
	}
	return string(out)
}

// FromBase64: P2.9. A wrong digit anywhere goes ahead of a wrong length, so the length is looked at behind them all.
func FromBase64(s string) ([]byte, api.Errno, int) {
	if len(s) > api.MaxCoded {
		return nil, api.ErrLong, 0
	}
	out := make([]byte, 0, 6*len(s)/8)
	bits, count := uint32(0), uint(0)
	for i := range len(s) {
		n, ok := value64(s[i])
		if !ok {
			return nil, api.ErrDigit, i
		}
		bits, count = bits<<6|uint32(n), count+6
		if count >= 8 {
			count -= 8
			out = append(out, byte(bits>>count))
		}
	}
	if len(s)%4 == 1 {
		return nil, api.ErrShort, len(s)
	}
	if bits&(1<<count-1) != 0 {
		return nil, api.ErrBits, len(s) - 1
	}
	return out, api.OK, 0
}

// Hex: P2.10.
func Hex(p []byte) string {
	out := make([]byte, 0, 2*len(p))
	for _, x := range p {
		out = append(out, digits16[x>>4], digits16[x&15])
	}
	return string(out)
}

// FromHex: P2.10. As with FromBase64, digits go ahead of the length.
func FromHex(s string) ([]byte, api.Errno, int) {
	if len(s) > api.MaxCoded {
		return nil, api.ErrLong, 0
	}
	out := make([]byte, 0, len(s)/2)
	high := byte(0)
	for i := range len(s) {
		n, ok := value16(s[i])
		if !ok {
			return nil, api.ErrDigit, i
		}
		if i%2 == 1 {
			out = append(out, high<<4|n)
		}
		high = n
	}
	if len(s)%2 == 1 {
		return nil, api.ErrShort, len(s)
	}
	return out, api.OK, 0
}

// value64 is the number of a digit of digits64, and whether it is one.
func value64(c byte) (byte, bool) {
	switch {
	case 'A' <= c && c <= 'Z':
		return c - 'A', true
	case 'a' <= c && c <= 'z':
		return c - 'a' + 26, true
	case '0' <= c && c <= '9':
		return c - '0' + 52, true
	case c == '-':
		return 62, true
	case c == '_':
		return 63, true
	}
	return 0, false
}

// value16 is the number of a digit of digits16, and whether it is one.
func value16(c byte) (byte, bool) {
	switch {
	case '0' <= c && c <= '9':
		return c - '0', true
	case 'a' <= c && c <= 'f':
		return c - 'a' + 10, true
	}
	return 0, false
}
