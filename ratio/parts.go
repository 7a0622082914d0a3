package ratio

import (
	"vouch/api"
	"vouch/nat"
	"vouch/whole"
)

// fraction is a ratio in its form that fits, in memory that nobody else has.
type fraction struct{ api.Ratio }

// reduced tells the fraction of a ratio that fits and is one.
func reduced(a api.Ratio) fraction {
	num, den := shortened(a.Num.Abs, a.Den)
	above, _ := whole.Make(a.Num.Neg, num) // it fits: it is no greater than it was
	return fraction{api.Ratio{Num: above, Den: den}}
}

// isWhole: is it a whole number? Of one bit there is no Den but 1.
func (x fraction) isWhole() bool {
	return nat.Bits(x.Den) == 1
}

// opposite is x with the other sign. It takes the memory of x.
func (x fraction) opposite() fraction {
	x.Num, _ = whole.Neg(x.Num) // it fits, as x does
	return x
}

// inverse is 1 over x, which is not 0. It takes the memory of x.
func (x fraction) inverse() fraction {
	return fraction{api.Ratio{Num: api.Whole{Neg: x.Num.Neg, Abs: x.Den}, Den: x.Num.Abs}}
}

// wide is a whole number of as many bits as layer 1 takes: halfway to an answer that fits there are more than layer 2 takes.
type wide struct{ api.Whole }

// times is w times n, both of which have at most MaxBits bits: layer 1 takes twice as many.
func (w wide) times(n []uint64) wide {
	w.Abs = product(w.Abs, n)
	return w
}

// plus tells a sum: ErrLimit, if layer 1 doesn't take it.
func (w wide) plus(v wide) (wide, api.Errno) {
	var e api.Errno
	if w.Neg == v.Neg {
		w.Abs, e = nat.Add(w.Abs, v.Abs)
		return w, e
	}
	if nat.Cmp(w.Abs, v.Abs) < 0 {
		w, v = v, w
	}
	w.Abs, e = nat.Sub(w.Abs, v.Abs)
	return w, e
}

// shortened is both numbers without their greatest common divisor. The second one is not 0.
func shortened(a, b []uint64) ([]uint64, []uint64) {
	divisor := common(a, b)
	return over(a, divisor), over(b, divisor)
}

// What is handed to these three never leads to an error: it has room in layer 1, and nothing is divided by 0.

func common(a, b []uint64) []uint64 {
	divisor, _ := nat.Gcd(a, b)
	return divisor
}

func over(a, b []uint64) []uint64 {
	often, _, _ := nat.Div(a, b)
	return often
}

func product(a, b []uint64) []uint64 {
	made, _ := nat.Mul(a, b)
	return made
}
