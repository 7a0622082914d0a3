package whole

import (
	"vouch/api"
	"vouch/nat"
)

// Add tells a sum (P2.3).
func Add(a, b api.Whole) (api.Whole, api.Errno) {
	if !fits(a) || !fits(b) {
		return api.Whole{}, api.ErrLimit
	}
	i, j := places(a, b)
	if sign := sums[i][j]; sign != across {
		return maker(sign < 0)(nat.Add(a.Abs, b.Abs))
	}
	if nat.Cmp(a.Abs, b.Abs) < 0 {
		a, b = b, a
	}
	return maker(a.Neg)(nat.Sub(a.Abs, b.Abs))
}

// Sub tells a difference (P2.3).
func Sub(a, b api.Whole) (api.Whole, api.Errno) {
	return Add(a, api.Whole{Neg: !b.Neg, Abs: b.Abs})
}

// Mul tells a product (P2.3).
func Mul(a, b api.Whole) (api.Whole, api.Errno) {
	if !fits(a) || !fits(b) {
		return api.Whole{}, api.ErrLimit
	}
	i, j := places(a, b)
	return maker(products[i][j] < 0)(nat.Mul(a.Abs, b.Abs))
}

// Neg tells the number with the other sign (P2.3).
func Neg(a api.Whole) (api.Whole, api.Errno) {
	return Make(!a.Neg, a.Abs)
}

// Quo tells a over b, rounded towards 0 (P2.4).
func Quo(a, b api.Whole) (api.Whole, api.Errno) {
	if !fits(a) || !fits(b) {
		return api.Whole{}, api.ErrLimit
	}
	i, j := places(a, b)
	often, _, e := nat.Div(a.Abs, b.Abs)
	return maker(products[i][j] < 0)(often, e)
}

// Rem tells what a over b leaves (P2.4).
func Rem(a, b api.Whole) (api.Whole, api.Errno) {
	if !fits(a) || !fits(b) {
		return api.Whole{}, api.ErrLimit
	}
	_, left, e := nat.Div(a.Abs, b.Abs)
	return maker(a.Neg)(left, e)
}

// Pow tells the product of n numbers a (P2.5).
func Pow(a, n api.Whole) (api.Whole, api.Errno) {
	if !fits(a) || !fits(n) {
		return api.Whole{}, api.ErrLimit
	}
	if Sign(n) < 0 {
		return api.Whole{}, api.ErrPower
	}
	if nat.Bits(a.Abs) < 2 {
		n = turn(n)
	}
	// From the highest bit on each product is a power that the answer's worth is not below: where one doesn't fit, the answer doesn't.
	power, e := Int(1), api.OK
	for i := nat.Bits(n.Abs) - 1; i >= 0 && e == api.OK; i-- {
		power, e = Mul(power, power)
		if e == api.OK && bit(n.Abs, i) {
			power, e = Mul(power, a)
		}
	}
	return power, e
}

// turn is an exponent of at most 2 by which 0, 1 and -1 have the powers that they have by n: from 1 on these go round by twos.
func turn(n api.Whole) api.Whole {
	switch {
	case Sign(n) == 0:
		return Int(0)
	case bit(n.Abs, 0):
		return Int(1)
	}
	return Int(2)
}

func bit(a []uint64, i int) bool {
	return a[i/64]>>(i%64)&1 == 1
}
