package frame

// halfSums holds what the sum's rule makes of each half byte in four steps, so that a byte takes two look-ups and not eight steps.
var halfSums = [16]uint32{
	0x00000000, 0x1db71064, 0x3b6e20c8, 0x26d930ac,
	0x76dc4190, 0x6b6b51f4, 0x4db26158, 0x5005713c,
	0xedb88320, 0xf00f9344, 0xd6d6a3e8, 0xcb61b38c,
	0x9b64c2b0, 0x86d3d2d4, 0xa00ae278, 0xbdbdf21c,
}

// Crc: P1.1. No bytes have the sum 0, so that every sum goes on from there.
func Crc(p []byte) uint32 {
	return CrcOn(0, p)
}

// CrcOn: P1.1.
func CrcOn(c uint32, p []byte) uint32 {
	register := ^c
	for _, x := range p {
		register ^= uint32(x)
		register = register>>4 ^ halfSums[register&15]
		register = register>>4 ^ halfSums[register&15]
	}
	return ^register
}
