package nat

import (
	"math"
	"math/bits"
)

// divide tells how often b, which is not 0, goes into a, and what is left: each in new memory of its own, which may have 0s at its end.
func divide(a, b []uint64) ([]uint64, []uint64) {
	if Cmp(a, b) < 0 {
		return nil, copied(a)
	}
	if len(b) == 1 {
		quotient := copied(a)
		return quotient, []uint64{divideShort(quotient, b[0])}
	}
	// With the divisor's highest bit set a guess from its highest limbs is at most one too great.
	free := bits.LeadingZeros64(b[len(b)-1])
	divisor, rest := form(lift(b, free)), lift(a, free)
	n := len(divisor)
	quotient := make([]uint64, len(rest)-n)
	for i := len(quotient) - 1; i >= 0; i-- {
		quotient[i] = takeOff(rest[i:i+n+1], divisor)
	}
	return quotient, sink(rest[:n], free)
}

// divideShort puts how often d goes into a in the place of a, and tells what is left.
func divideShort(a []uint64, d uint64) uint64 {
	var rest uint64
	for i := len(a) - 1; i >= 0; i-- {
		a[i], rest = bits.Div64(rest, a[i], d)
	}
	return rest
}

// takeOff tells how often the divisor goes into rest, which is one limb longer and below 2^64 times the divisor, and leaves what is left in all limbs of rest but the last, which is asked no more.
func takeOff(rest, divisor []uint64) uint64 {
	n := len(divisor)
	times := guess(rest, divisor)
	if lowerTimes(rest[:n], divisor, times) > rest[n] {
		raise(rest[:n], divisor)
		times--
	}
	return times
}

// guess tells how often the divisor goes into rest, or one more than that, by their highest limbs.
func guess(rest, divisor []uint64) uint64 {
	n := len(divisor)
	top, second := divisor[n-1], divisor[n-2]
	if rest[n] >= top {
		return math.MaxUint64
	}
	times, left := bits.Div64(rest[n], rest[n-1], top)
	// By the highest limb alone it may be two more: then the second one takes at least a limb more than there is left.
	if high, _ := bits.Mul64(times, second); high > left {
		times--
	}
	return times
}

// common is the greatest number that divides both, neither of which is 0. It takes their memory.
func common(a, b []uint64) []uint64 {
	evensA, evensB := evens(a), evens(b)
	a, b = sink(a, evensA), sink(b, evensB)
	// Both stay odd, so that their difference is even and each round takes at least a bit off.
	for {
		c := Cmp(a, b)
		if c == 0 {
			return form(lift(a, min(evensA, evensB)))
		}
		if c < 0 {
			a, b = b, a
		}
		lower(a, b)
		a = sink(a, evens(a))
	}
}
