// Package nat is layer 1: natural numbers as lists of limbs, the least one first. See shared/doc/01-nat.md.
package nat

import (
	"math/bits"

	"vouch/api"
)

// mostBits is how many bits a number has that just fits.
const mostBits = 64 * api.MaxLimbs

// Norm tells a number in its form (P1.2).
func Norm(a []uint64) ([]uint64, api.Errno) {
	a, e := one(a)
	if e != api.OK {
		return nil, e
	}
	return copied(a), api.OK
}

// Add tells a sum (P1.3).
func Add(a, b []uint64) ([]uint64, api.Errno) {
	a, b, e := both(a, b)
	if e != api.OK {
		return nil, e
	}
	if len(a) < len(b) {
		a, b = b, a
	}
	sum := make([]uint64, len(a)+1)
	copy(sum, a)
	raise(sum, b)
	return one(sum)
}

// Sub tells a difference (P1.3).
func Sub(a, b []uint64) ([]uint64, api.Errno) {
	a, b, e := both(a, b)
	if e != api.OK {
		return nil, e
	}
	if Cmp(a, b) < 0 {
		return nil, api.ErrBelow
	}
	rest := copied(a)
	lower(rest, b)
	return one(rest)
}

// Mul tells a product (P1.3).
func Mul(a, b []uint64) ([]uint64, api.Errno) {
	a, b, e := both(a, b)
	if e != api.OK {
		return nil, e
	}
	// A product has as many bits as its factors together, or one fewer.
	if Bits(a)+Bits(b) > mostBits+1 {
		return nil, api.ErrLimit
	}
	if min(len(a), len(b)) < largeLimbs {
		return one(byRows(a, b))
	}
	return one(byTransform(a, b))
}

// Div tells how often b goes into a, and what is left (P1.4).
func Div(a, b []uint64) ([]uint64, []uint64, api.Errno) {
	a, b, e := both(a, b)
	if e != api.OK {
		return nil, nil, e
	}
	if len(b) == 0 {
		return nil, nil, api.ErrZero
	}
	quotient, rest := divide(a, b)
	return form(quotient), form(rest), api.OK
}

// Gcd tells the greatest number that divides both (P1.4).
func Gcd(a, b []uint64) ([]uint64, api.Errno) {
	a, b, e := both(a, b)
	if e != api.OK {
		return nil, e
	}
	if len(b) == 0 {
		return copied(a), api.OK
	}
	_, rest := divide(a, b)
	if rest = form(rest); len(rest) == 0 {
		return copied(b), api.OK
	}
	return common(copied(b), rest), api.OK
}

// Shift tells a times 2^n, rounded down (P1.5).
func Shift(a []uint64, n int) ([]uint64, api.Errno) {
	a, e := one(a)
	switch {
	case e != api.OK:
		return nil, e
	case len(a) == 0 || n <= -mostBits: // -n may be no int
		return nil, api.OK
	case n < 0:
		return sink(copied(a), -n), api.OK
	case n > mostBits-Bits(a):
		return nil, api.ErrLimit
	}
	return form(lift(a, n)), api.OK
}

// Cmp tells whether a is below b (-1), the same (0) or above (1) (P1.6).
func Cmp(a, b []uint64) int {
	a, b = form(a), form(b)
	if len(a) != len(b) {
		return sign(len(a) > len(b))
	}
	for i := len(a) - 1; i >= 0; i-- {
		if a[i] != b[i] {
			return sign(a[i] > b[i])
		}
	}
	return 0
}

func sign(above bool) int {
	if above {
		return 1
	}
	return -1
}

// Bits tells how many bits a number has (P1.6).
func Bits(a []uint64) int {
	a = form(a)
	if len(a) == 0 {
		return 0
	}
	return 64*(len(a)-1) + bits.Len64(a[len(a)-1])
}
