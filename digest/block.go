package digest

const blockBytes = 64

// roots: the first 32 bits of the fractional parts of the cube roots of the first 64 primes.
var roots = [64]uint32{
	0x428a2f98, 0x71374491, 0xb5c0fbcf, 0xe9b5dba5, 0x3956c25b, 0x59f111f1, 0x923f82a4, 0xab1c5ed5,
	0xd807aa98, 0x12835b01, 0x243185be, 0x550c7dc3, 0x72be5d74, 0x80deb1fe, 0x9bdc06a7, 0xc19bf174,
	0xe49b69c1, 0xefbe4786, 0x0fc19dc6, 0x240ca1cc, 0x2de92c6f, 0x4a7484aa, 0x5cb0a9dc, 0x76f988da,
	0x983e5152, 0xa831c66d, 0xb00327c8, 0xbf597fc7, 0xc6e00bf3, 0xd5a79147, 0x06ca6351, 0x14292967,
	0x27b70a85, 0x2e1b2138, 0x4d2c6dfc, 0x53380d13, 0x650a7354, 0x766a0abb, 0x81c2c92e, 0x92722c85,
	0xa2bfe8a1, 0xa81a664b, 0xc24b8b70, 0xc76c51a3, 0xd192e819, 0xd6990624, 0xf40e3585, 0x106aa070,
	0x19a4c116, 0x1e376c08, 0x2748774c, 0x34b0bcb5, 0x391c0cb3, 0x4ed8aa4a, 0x5b9cca4f, 0x682e6ff3,
	0x748f82ee, 0x78a5636f, 0x84c87814, 0x8cc70208, 0x90befffa, 0xa4506ceb, 0xbef9a3f7, 0xc67178f2,
}

// firstWords: the register that a sum begins with, the square roots' words.
func firstWords() [8]uint32 {
	return [8]uint32{0x6a09e667, 0xbb67ae85, 0x3c6ef372, 0xa54ff53a, 0x510e527f, 0x9b05688c, 0x1f83d9ab, 0x5be0cd19}
}

// turned is the register h, turned by a block: the chapter's section 2.1, with its letters.
func turned(h [8]uint32, block [blockBytes]byte) [8]uint32 {
	w := spread(block)
	a, b, c, d, e, f, g, k := h[0], h[1], h[2], h[3], h[4], h[5], h[6], h[7]
	for t := range 64 {
		u := k + (round(e, 6) ^ round(e, 11) ^ round(e, 25)) + ((e & f) ^ (^e & g)) + roots[t] + w[t]
		v := (round(a, 2) ^ round(a, 13) ^ round(a, 22)) + ((a & b) ^ (a & c) ^ (b & c))
		k, g, f, e, d, c, b, a = g, f, e, d+u, c, b, a, u+v
	}
	return [8]uint32{h[0] + a, h[1] + b, h[2] + c, h[3] + d, h[4] + e, h[5] + f, h[6] + g, h[7] + k}
}

// spread makes the 64 words w of a block.
func spread(block [blockBytes]byte) [64]uint32 {
	var w [64]uint32
	for t := range 16 {
		w[t] = word(block[4*t:])
	}
	for t := 16; t < 64; t++ {
		x, y := w[t-15], w[t-2]
		s0 := round(x, 7) ^ round(x, 18) ^ x>>3
		s1 := round(y, 17) ^ round(y, 19) ^ y>>10
		w[t] = w[t-16] + s0 + w[t-7] + s1
	}
	return w
}

func round(x uint32, n uint) uint32 {
	return x>>n | x<<(32-n)
}

// word reads the four bytes at the beginning of b, the highest first.
func word(b []byte) uint32 {
	return uint32(b[0])<<24 | uint32(b[1])<<16 | uint32(b[2])<<8 | uint32(b[3])
}

// number reads the eight bytes at the beginning of b, the highest first.
func number(b []byte) uint64 {
	return uint64(word(b))<<32 | uint64(word(b[4:]))
}

func putNumber(b []byte, n uint64) {
	for i := range 8 {
		b[i] = byte(n >> uint(56-8*i))
	}
}

func wordBytes(register [8]uint32) [32]byte {
	var out [32]byte
	for i := range out {
		out[i] = byte(register[i/4] >> uint(24-8*(i%4)))
	}
	return out
}
