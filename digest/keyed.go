package digest

const (
	innerPad = 0x36
	outerPad = 0x5c
)

// Joined: P2.5.
func Joined(parts ...[]byte) [32]byte {
	h := New()
	for _, p := range parts {
		var length [8]byte
		putNumber(length[:], uint64(len(p)))
		h.Write(length[:])
		h.Write(p)
	}
	return h.Sum()
}

// Mac: P2.6.
func Mac(key []byte, parts ...[]byte) [32]byte {
	block := keyBlock(key)
	inner := padded(block, innerPad)
	for _, p := range parts {
		inner.Write(p)
	}
	sum := inner.Sum()
	outer := padded(block, outerPad)
	outer.Write(sum[:])
	return outer.Sum()
}

// Same: P2.7. It looks at all bytes, so that the time it takes does not tell where two secrets part.
func Same(a, b []byte) bool {
	if len(a) != len(b) {
		return false
	}
	apart := byte(0)
	for i := range a {
		apart |= a[i] ^ b[i]
	}
	return apart == 0
}

// keyBlock is the key in 64 bytes: a longer one by its sum.
func keyBlock(key []byte) [blockBytes]byte {
	var block [blockBytes]byte
	if len(key) > blockBytes {
		sum := Sum(key)
		key = sum[:]
	}
	copy(block[:], key)
	return block
}

// padded is a Hash that took the block with each byte xor pad.
func padded(block [blockBytes]byte, pad byte) *Hash {
	for i := range block {
		block[i] ^= pad
	}
	h := New()
	h.Write(block[:])
	return h
}
