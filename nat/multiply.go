package nat

import "math"

const (
	// largeLimbs is how many limbs both factors have of a product that is made by the transform.
	largeLimbs = 32

	// The transform's digits are a quarter of a limb. Of a product with at most 8193 bits at most 514 digits go in, and the sum of their squares is below 2^42. With at most 10 rounds each way, and floats that round at 2^-53, what rounding adds to a digit's sum stays below a quarter: the nearest whole number is the sum.
	digitBits = 16
	inLimb    = 64 / digitBits
	digitMask = 1<<digitBits - 1
)

// byRows is a product, made limb by limb.
func byRows(a, b []uint64) []uint64 {
	product := make([]uint64, len(a)+len(b))
	for i, x := range a {
		product[i+len(b)] = raiseTimes(product[i:i+len(b)], b, x)
	}
	return product
}

// byTransform is a product, made by a transform over complex numbers. Digits of a stand in the real parts, those of b in the imaginary ones: (a + ib)^2 has 2ab in its imaginary parts, so that one transform serves both.
func byTransform(a, b []uint64) []uint64 {
	places := make([]complex128, width(digits(a)+digits(b)-1))
	for i := range digits(a) {
		places[i] = complex(digit(a, i), 0)
	}
	for i := range digits(b) {
		places[i] += complex(0, digit(b, i))
	}
	roots := unitRoots(len(places))
	there(places, roots)
	for i, x := range places {
		places[i] = x * x
	}
	back(places, roots)
	return gathered(places, len(a)+len(b))
}

// digits tells how many digits of the transform a number has.
func digits(a []uint64) int {
	return (Bits(a) + digitBits - 1) / digitBits
}

func digit(a []uint64, i int) float64 {
	return float64(a[i/inLimb] >> (i % inLimb * digitBits) & digitMask)
}

// width is the least power of 2 that is n or more.
func width(n int) int {
	w := 1
	for w < n {
		w *= 2
	}
	return w
}

// unitRoots is the first half of the n-th roots of 1.
func unitRoots(n int) []complex128 {
	roots := make([]complex128, n/2)
	for i := range roots {
		sin, cos := math.Sincos(2 * math.Pi * float64(i) / float64(n))
		roots[i] = complex(cos, sin)
	}
	return roots
}

// there transforms the places. It leaves them in the order that back begins with, so that none need be changed about.
func there(places, roots []complex128) {
	for half := len(places) / 2; half > 0; half /= 2 {
		step := len(roots) / half
		for from := 0; from < len(places); from += 2 * half {
			for i := range half {
				x, y := places[from+i], places[from+half+i]
				places[from+i] = x + y
				places[from+half+i] = (x - y) * roots[i*step]
			}
		}
	}
}

// back undoes what there does, but for the factor that is the number of places.
func back(places, roots []complex128) {
	for half := 1; half < len(places); half *= 2 {
		step := len(roots) / half
		for from := 0; from < len(places); from += 2 * half {
			for i := range half {
				root := roots[i*step]
				x, y := places[from+i], places[from+half+i]*complex(real(root), -imag(root))
				places[from+i] = x + y
				places[from+half+i] = x - y
			}
		}
	}
}

// gathered is the number of so many limbs whose digits' sums stand in the places.
func gathered(places []complex128, limbs int) []uint64 {
	product := make([]uint64, limbs)
	scale := 2 * float64(len(places))
	var carry uint64
	for i := range limbs * inLimb {
		if i < len(places) {
			carry += uint64(math.Round(imag(places[i]) / scale))
		}
		product[i/inLimb] |= carry & digitMask << (i % inLimb * digitBits)
		carry >>= digitBits
	}
	return product
}
