package nat

import (
	"math/bits"

	"vouch/api"
)

// form is the part of a list that counts: the same memory, no copy.
func form(a []uint64) []uint64 {
	n := len(a)
	for n > 0 && a[n-1] == 0 {
		n--
	}
	if n == 0 {
		return nil
	}
	return a[:n]
}

// one is the part of a list that counts, if it fits.
func one(a []uint64) ([]uint64, api.Errno) {
	a = form(a)
	if len(a) > api.MaxLimbs {
		return nil, api.ErrLimit
	}
	return a, api.OK
}

// both is one for two lists.
func both(a, b []uint64) ([]uint64, []uint64, api.Errno) {
	a, e := one(a)
	if e != api.OK {
		return nil, nil, e
	}
	b, e = one(b)
	if e != api.OK {
		return nil, nil, e
	}
	return a, b, api.OK
}

func copied(a []uint64) []uint64 {
	return append([]uint64(nil), a...)
}

// raise adds b to a, which is at least as long, in its place; it tells what is carried out of it.
func raise(a, b []uint64) uint64 {
	var carry uint64
	for i, x := range b {
		a[i], carry = bits.Add64(a[i], x, carry)
	}
	for i := len(b); i < len(a) && carry > 0; i++ {
		a[i], carry = bits.Add64(a[i], 0, carry)
	}
	return carry
}

// lower takes b off a, which is not below it, in its place.
func lower(a, b []uint64) {
	var borrow uint64
	for i, x := range b {
		a[i], borrow = bits.Sub64(a[i], x, borrow)
	}
	for i := len(b); i < len(a) && borrow > 0; i++ {
		a[i], borrow = bits.Sub64(a[i], 0, borrow)
	}
}

// raiseTimes adds b times x to a, which is as long as b, in its place; it tells what is carried out of it.
func raiseTimes(a, b []uint64, x uint64) uint64 {
	var carry uint64
	for i, y := range b {
		high, low := bits.Mul64(x, y)
		low, c := bits.Add64(low, carry, 0)
		high += c
		a[i], c = bits.Add64(a[i], low, 0)
		carry = high + c
	}
	return carry
}

// lowerTimes takes b times x off a, which is as long as b, in its place; it tells what is still to be taken off above it.
func lowerTimes(a, b []uint64, x uint64) uint64 {
	var borrow uint64
	for i, y := range b {
		high, low := bits.Mul64(x, y)
		low, c := bits.Add64(low, borrow, 0)
		high += c
		a[i], c = bits.Sub64(a[i], low, 0)
		borrow = high + c
	}
	return borrow
}

// lift is a times 2^n in new memory, which may have 0s at its end.
func lift(a []uint64, n int) []uint64 {
	limbs, rest := n/64, n%64
	lifted := make([]uint64, len(a)+limbs+1)
	for i, x := range a {
		lifted[i+limbs] |= x << rest
		lifted[i+limbs+1] = x >> (64 - rest)
	}
	return lifted
}

// sink is a over 2^n, rounded down, in the memory of a.
func sink(a []uint64, n int) []uint64 {
	limbs, rest := n/64, n%64
	if limbs >= len(a) {
		return nil
	}
	for i := limbs; i < len(a); i++ {
		low := a[i] >> rest
		if i+1 < len(a) {
			low |= a[i+1] << (64 - rest)
		}
		a[i-limbs] = low
	}
	return form(a[:len(a)-limbs])
}

// evens tells how often 2 divides a number above 0.
func evens(a []uint64) int {
	i := 0
	for a[i] == 0 {
		i++
	}
	return 64*i + bits.TrailingZeros64(a[i])
}
