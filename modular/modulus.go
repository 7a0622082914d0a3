package modular

import (
	"vouch/api"
	"vouch/nat"
)

// mostBits is how many bits a number has that just fits, if it is no modulus.
const mostBits = 64 * api.MaxLimbs

// modulus is a modulus that fits, in its form.
type modulus []uint64

// check tells m as a modulus, or what is wrong with what is handed in (P4.1): of all of it ErrLimit is asked first.
func check(m []uint64, numbers ...[]uint64) (modulus, api.Errno) {
	for _, a := range numbers {
		if nat.Bits(a) > mostBits {
			return nil, api.ErrLimit
		}
	}
	bits := nat.Bits(m)
	switch {
	case bits > api.MaxKey:
		return nil, api.ErrLimit
	case bits == 0:
		return nil, api.ErrZero
	}
	// In its form, since a power divides by it thousands of times, and 0s at its end would be gone over each time.
	return nat.Norm(m)
}

// left is a modulo m, of any a that fits.
func (m modulus) left(a []uint64) []uint64 {
	_, rest, _ := nat.Div(a, m) // m is not 0
	return rest
}

// What is handed to the next three is at most m, what is taken away below it. A modulus has at most half as many bits as layer 1 takes, so that all sums and products fit.

func (m modulus) sum(a, b []uint64) []uint64 {
	sum, _ := nat.Add(a, b)
	return m.left(sum)
}

func (m modulus) difference(a, b []uint64) []uint64 {
	if nat.Cmp(a, b) < 0 {
		a, _ = nat.Add(a, m)
	}
	rest, _ := nat.Sub(a, b)
	return rest
}

func (m modulus) product(a, b []uint64) []uint64 {
	product, _ := nat.Mul(a, b)
	return m.left(product)
}

// power is the product of n numbers a, modulo m. It goes along the bits of n, the highest first, so that a itself is all that it multiplies by.
func (m modulus) power(a, n []uint64) []uint64 {
	power := m.left([]uint64{1})
	bit := nat.Bits(n)
next:
	if bit == 0 {
		return power
	}
	bit--
	power = m.product(power, power)
	if n[bit/64]>>(bit%64)&1 == 0 {
		goto next
	}
	power = m.product(power, a)
	goto next
}

// inverse tells the number below m by which a leaves 1. On the way down from m and a to their greatest common divisor, each number leaves as much as its factor times a.
func (m modulus) inverse(a []uint64) ([]uint64, api.Errno) {
	above, below := []uint64(m), a
	aboveFactor, belowFactor := []uint64(nil), []uint64{1}
	for len(below) > 0 {
		often, rest, _ := nat.Div(above, below)
		restFactor := m.difference(aboveFactor, m.product(often, belowFactor))
		above, below = below, rest
		aboveFactor, belowFactor = belowFactor, restFactor
	}
	if nat.Bits(above) > 1 {
		return nil, api.ErrInverse
	}
	return aboveFactor, api.OK
}
