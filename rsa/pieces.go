package rsa

import (
	"strings"

	"vouch/api"
	"vouch/nat"
)

// The pieces of an encoding that are the same for all digests.
const (
	opening = "\x00\x01"
	filler  = "\xff"
	nought  = "\x00"
	fixed   = "\x30\x21\x30\x09\x06\x05\x2b\x0e\x03\x02\x1a\x05\x00\x04\x14" // tells that a digest of SHA-1 follows
)

// Lengths of an encoding, in bytes.
const (
	leastSize = api.MinKey / 8
	mostSize  = api.MaxKey / 8
	unfilled  = len(opening) + len(nought) + len(fixed) + 20 // all but what fills up
)

// joined tells pieces one behind the other.
func joined(pieces ...string) []byte {
	var b []byte
	for _, piece := range pieces {
		b = append(b, piece...)
	}
	return b
}

// inBytes tells a number in n bytes, more than which it does not have.
func inBytes(a []uint64, n int) ([]byte, api.Errno) {
	b, e := nat.Bytes(a)
	if e != api.OK {
		return nil, e
	}
	return joined(strings.Repeat(nought, n-len(b)), string(b)), api.OK
}
