package der

import (
	"vouch/api"
	"vouch/nat"
)

const (
	// longLength and n is the first byte of a length of n bytes more; a byte below it is a length by itself.
	longLength = 0x80

	// mostBytes is how many bytes more a length has at most.
	mostBytes = 4

	// signBit is 1 in the first byte of an integer below 0.
	signBit = 0x80
)

// item is a tag, and the places at which the item's content begins and ends.
type item struct {
	tag      byte
	from, to int
}

// itemAt reads the item that begins at a place.
func itemAt(b []byte, at int) item {
	demand(at >= 0 && at <= len(b), api.ErrArg)
	demand(len(b)-at >= 2, api.ErrShort)
	length, from := lengthAt(b, at+1)
	demand(length <= uint64(len(b)-from), api.ErrShort)
	return item{b[at], from, from + int(length)}
}

// lengthAt reads the length whose first byte stands at a place, and tells the place behind it.
func lengthAt(b []byte, at int) (uint64, int) {
	first, from := b[at], at+1
	if first < longLength {
		return uint64(first), from
	}
	n := int(first - longLength)
	demand(n >= 1 && n <= mostBytes, api.ErrLength)
	demand(n <= len(b)-from, api.ErrShort)
	var length uint64
	for _, c := range b[from : from+n] {
		length = length<<8 | uint64(c)
	}
	demand(b[from] != 0 && length >= longLength, api.ErrLength)
	return length, from + n
}

// keyOf reads a key's bytes.
func keyOf(b []byte) api.Key {
	whole := itemAt(b, 0)
	demand(whole.tag == tagKey, api.ErrTag)
	demand(whole.to == len(b), api.ErrLong)
	content := b[whole.from:]
	n, behindN := integerAt(content, 0)
	e, behindE := integerAt(content, behindN)
	demand(behindE == len(content), api.ErrLong)
	return api.Key{N: n, E: e}
}

// integerAt reads the integer that begins at a place as an item, and tells the place behind it.
func integerAt(b []byte, at int) ([]uint64, int) {
	it := itemAt(b, at)
	demand(it.tag == tagInteger, api.ErrTag)
	return numberOf(b[it.from:it.to]), it.to
}

// numberOf reads an integer's content.
func numberOf(b []byte) []uint64 {
	demand(isContent(b), api.ErrInteger)
	a, e := nat.From(b)
	demand(e == api.OK && nat.Bits(a) <= api.MaxKey, api.ErrLimit)
	return a
}

// isContent: is it the content of an integer of 0 or above?
func isContent(b []byte) bool {
	if len(b) == 0 || b[0] >= signBit {
		return false
	}
	return len(b) == 1 || b[0] > 0 || b[1] >= signBit
}
