package rsa

import (
	"vouch/api"
	"vouch/nat"
)

// mayBeModulus: N is odd, and as long as a key's N may be.
func mayBeModulus(n []uint64) bool {
	bits := nat.Bits(n)
	return bits >= api.MinKey && bits <= api.MaxKey && odd(n)
}

// mayBeExponent: E is odd, 3 or more, and below N.
func mayBeExponent(e, n []uint64) bool {
	return odd(e) && nat.Cmp(e, []uint64{3}) >= 0 && nat.Cmp(e, n) < 0
}

func odd(a []uint64) bool { return len(a) > 0 && a[0]&1 == 1 }

// numberBelow tells the number of a signature, if it has the key's size and its number is below N.
func numberBelow(k api.Key, s []byte) ([]uint64, api.Errno) {
	if len(s) != Size(k) {
		return nil, api.ErrSize
	}
	a, e := nat.From(s)
	if e != api.OK {
		return nil, e
	}
	if nat.Cmp(a, k.N) >= 0 {
		return nil, api.ErrSize
	}
	return a, api.OK
}
