package der

import (
	"slices"

	"vouch/api"
	"vouch/nat"
)

// laid is an item in bytes.
func laid(tag byte, content []byte) []byte {
	return slices.Concat([]byte{tag}, lengthOf(len(content)), content)
}

// lengthOf is a length in bytes, as short as it can be.
func lengthOf(n int) []byte {
	if n < longLength {
		return []byte{byte(n)}
	}
	more, _ := nat.Bytes([]uint64{uint64(n)}) // one limb always fits
	return slices.Concat([]byte{longLength + byte(len(more))}, more)
}

// contentOf is a number as an integer's content.
func contentOf(a []uint64) []byte {
	demand(nat.Bits(a) <= api.MaxKey, api.ErrLimit)
	b, _ := nat.Bytes(a) // so few bits always fit
	if len(b) == 0 || b[0] >= signBit {
		return slices.Concat([]byte{0}, b)
	}
	return b
}
