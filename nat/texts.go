package nat

import (
	"math/bits"
	"slices"
	"strings"

	"vouch/api"
)

const (
	// A part is the digits that go into a limb at once.
	partDigits = 19
	partWorth  = 10_000_000_000_000_000_000

	// mostDigits is how many digits the greatest number has that fits.
	mostDigits = 2467
)

// Text tells a number in decimal digits (P1.7).
func Text(a []uint64) (string, api.Errno) {
	a, e := one(a)
	if e != api.OK {
		return "", e
	}
	if len(a) == 0 {
		return "0", api.OK
	}
	var digits []byte // the least one first
	for rest := copied(a); len(rest) > 0; rest = form(rest) {
		part := divideShort(rest, partWorth)
		for range partDigits {
			digits = append(digits, '0'+byte(part%10))
			part /= 10
		}
	}
	slices.Reverse(digits)
	return strings.TrimLeft(string(digits), "0"), api.OK
}

// Parse tells the number of decimal digits (P1.7).
func Parse(s string) ([]uint64, api.Errno) {
	if len(s) > api.MaxDigits {
		return nil, api.ErrLimit
	}
	if !decimal(s) {
		return nil, api.ErrDigit
	}
	s = strings.TrimLeft(s, "0")
	if len(s) > mostDigits {
		return nil, api.ErrLimit
	}
	var number []uint64
	for len(s) > 0 {
		n := (len(s)-1)%partDigits + 1
		number = append(number, raisePart(number, worth(s[:n])))
		s = s[n:]
	}
	return one(number)
}

// decimal: is it digits, and at least one?
func decimal(s string) bool {
	for i := range len(s) {
		if s[i] < '0' || s[i] > '9' {
			return false
		}
	}
	return len(s) > 0
}

// worth is the number of at most so many digits as a part has.
func worth(s string) uint64 {
	var n uint64
	for i := range len(s) {
		n = 10*n + uint64(s[i]-'0')
	}
	return n
}

// raisePart puts a times partWorth and the part in the place of a, and tells what is carried out of it.
func raisePart(a []uint64, part uint64) uint64 {
	for i, x := range a {
		high, low := bits.Mul64(x, partWorth)
		low, c := bits.Add64(low, part, 0)
		a[i], part = low, high+c
	}
	return part
}

// Bytes tells a number's bytes, the highest first (P1.8).
func Bytes(a []uint64) ([]byte, api.Errno) {
	a, e := one(a)
	if e != api.OK {
		return nil, e
	}
	b := make([]byte, (Bits(a)+7)/8)
	for i := range b {
		place := len(b) - 1 - i
		b[i] = byte(a[place/8] >> (place % 8 * 8))
	}
	return b, api.OK
}

// From tells the number of bytes, the highest first (P1.8).
func From(b []byte) ([]uint64, api.Errno) {
	for len(b) > 0 && b[0] == 0 {
		b = b[1:]
	}
	if len(b) > 8*api.MaxLimbs {
		return nil, api.ErrLimit
	}
	number := make([]uint64, (len(b)+7)/8)
	for i, x := range b {
		place := len(b) - 1 - i
		number[place/8] |= uint64(x) << (place % 8 * 8)
	}
	return number, api.OK
}
