package ratio

import (
	"vouch/api"
	"vouch/nat"
	"vouch/whole"
)

// Add tells a sum (P3.3).
func Add(a, b api.Ratio) (api.Ratio, api.Errno) {
	x, y, e := both(a, b)
	if e != api.OK {
		return api.Ratio{}, e
	}
	return x.plus(y)
}

// Sub tells a difference (P3.3).
func Sub(a, b api.Ratio) (api.Ratio, api.Errno) {
	x, y, e := both(a, b)
	if e != api.OK {
		return api.Ratio{}, e
	}
	return x.plus(y.opposite())
}

// Mul tells a product (P3.3).
func Mul(a, b api.Ratio) (api.Ratio, api.Errno) {
	x, y, e := both(a, b)
	if e != api.OK {
		return api.Ratio{}, e
	}
	return x.times(y)
}

// Div tells a over b (P3.3).
func Div(a, b api.Ratio) (api.Ratio, api.Errno) {
	x, y, e := both(a, b)
	if e != api.OK {
		return api.Ratio{}, e
	}
	if whole.Sign(y.Num) == 0 {
		return api.Ratio{}, api.ErrZero
	}
	return x.times(y.inverse())
}

// Neg tells the ratio with the other sign (P3.3).
func Neg(a api.Ratio) (api.Ratio, api.Errno) {
	x, e := one(a)
	if e != api.OK {
		return api.Ratio{}, e
	}
	return x.opposite().Ratio, api.OK
}

// Pow tells a multiplied n times (P3.4).
func Pow(a, n api.Ratio) (api.Ratio, api.Errno) {
	x, y, e := both(a, n)
	switch {
	case e != api.OK:
		return api.Ratio{}, e
	case !y.isWhole():
		return api.Ratio{}, api.ErrPower
	case whole.Sign(y.Num) >= 0:
		return x.power(y.Num)
	case whole.Sign(x.Num) == 0:
		return api.Ratio{}, api.ErrZero
	}
	return x.inverse().power(y.opposite().Num)
}

// plus tells a sum. What both Dens have in common is left out of the way to it: where there is nothing of that, the sum stands in its form, and fits only if layer 1 takes it; where there is something, layer 1 takes it. What Num and Den still have in common then divides what was left out.
func (x fraction) plus(y fraction) (api.Ratio, api.Errno) {
	divisor := common(x.Den, y.Den)
	own, others := over(x.Den, divisor), over(y.Den, divisor)
	num, e := wide{x.Num}.times(others).plus(wide{y.Num}.times(own))
	if e != api.OK {
		return api.Ratio{}, e
	}
	divisor = common(num.Abs, divisor)
	return answer(num.Neg, over(num.Abs, divisor), product(own, over(y.Den, divisor)))
}

// times tells a product. Only the Num of one and the Den of the other have something in common.
func (x fraction) times(y fraction) (api.Ratio, api.Errno) {
	xNum, yDen := shortened(x.Num.Abs, y.Den)
	yNum, xDen := shortened(y.Num.Abs, x.Den)
	return answer(x.Num.Neg != y.Num.Neg, product(xNum, yNum), product(xDen, yDen))
}

// power tells x multiplied n times, n not below 0. Powers of parts that have nothing in common have nothing either.
func (x fraction) power(n api.Whole) (api.Ratio, api.Errno) {
	num, e := whole.Pow(x.Num, n)
	if e != api.OK {
		return api.Ratio{}, e
	}
	den, e := whole.Pow(api.Whole{Abs: x.Den}, n)
	if e != api.OK {
		return api.Ratio{}, e
	}
	return api.Ratio{Num: num, Den: den.Abs}, api.OK
}

// answer tells the ratio of parts that have nothing in common, if it fits.
func answer(neg bool, num, den []uint64) (api.Ratio, api.Errno) {
	above, e := whole.Make(neg, num)
	if e != api.OK || nat.Bits(den) > api.MaxBits {
		return api.Ratio{}, api.ErrLimit
	}
	return api.Ratio{Num: above, Den: den}, api.OK
}
