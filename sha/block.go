package sha

import "math/bits"

const (
	width   = 64 // bytes of a block
	numbers = 16 // of a block
	steps   = 80
	tail    = 8 // bytes of a message's length, behind it
)

// five are the numbers that go from block to block.
type five [5]uint32

var start = five{0x67452301, 0xEFCDAB89, 0x98BADCFE, 0x10325476, 0xC3D2E1F0}

// behind tells the five behind one more block.
func (f five) behind(block [width]byte) five {
	a, b, c, d, e := f[0], f[1], f[2], f[3], f[4]
	for t, w := range widened(block) {
		mixed, k := mix(t, b, c, d)
		sum := bits.RotateLeft32(a, 5) + mixed + e + k + w
		a, b, c, d, e = sum, a, bits.RotateLeft32(b, 30), c, d
	}
	return five{f[0] + a, f[1] + b, f[2] + c, f[3] + d, f[4] + e}
}

// mix tells how step t mixes three of the numbers, and what it adds to them.
func mix(t int, b, c, d uint32) (uint32, uint32) {
	switch {
	case t < 20:
		return b&c | ^b&d, 0x5A827999
	case t < 40:
		return b ^ c ^ d, 0x6ED9EBA1
	case t < 60:
		return b&c | b&d | c&d, 0x8F1BBCDC
	}
	return b ^ c ^ d, 0xCA62C1D6
}

// widened tells the numbers that a block brings to the steps: its own, and those made of them.
func widened(block [width]byte) [steps]uint32 {
	var w [steps]uint32
	own := numbersOf(block)
	for t := copy(w[:], own[:]); t < steps; t++ {
		w[t] = bits.RotateLeft32(w[t-3]^w[t-8]^w[t-14]^w[t-16], 1)
	}
	return w
}

// numbersOf tells the numbers that a block's bytes are, the highest byte of each first.
func numbersOf(block [width]byte) [numbers]uint32 {
	var list [numbers]uint32
	for i, b := range block {
		list[i/4] = list[i/4]<<8 | uint32(b)
	}
	return list
}

// bytes tells the five one behind the other, the highest byte of each first.
func (f five) bytes() [20]byte {
	var b [20]byte
	for i := range b {
		b[i] = byte(f[i/4] >> (24 - i%4*8))
	}
	return b
}
