package ratio_test

import (
	"fmt"
	"math/big"
	"math/rand"
	"testing"

	"vouch/api"
	"vouch/ratio"
)

// reckoned is what the library tells of two ratios.
func reckoned(x, y *big.Rat) map[string]*big.Rat {
	want := map[string]*big.Rat{"Add": new(big.Rat).Add(x, y), "Sub": new(big.Rat).Sub(x, y), "Mul": new(big.Rat).Mul(x, y)}
	if y.Sign() != 0 {
		want["Div"] = new(big.Rat).Quo(x, y)
	}
	return want
}

// checkTwo holds the four calls of two ratios against the library's.
func checkTwo(t *testing.T, a, b api.Ratio) {
	t.Helper()
	want := reckoned(ratOf(a), ratOf(b))
	for _, name := range []string{"Add", "Sub", "Mul", "Div"} {
		got, e := two[name](a, b)
		if want[name] == nil {
			refused(t, name+" by 0", got, e, api.ErrZero)
		} else if !right(got, e, want[name]) {
			t.Fatalf("%s(%v, %v): %v, error %d", name, ratOf(a), ratOf(b), got, e)
		}
	}
}

// P3.3
func TestSmall(t *testing.T) {
	for a := int64(-8); a <= 8; a++ {
		for b := int64(-8); b <= 8; b++ {
			for c := int64(1); c <= 8; c++ {
				for d := int64(1); d <= 8; d++ {
					checkTwo(t, small(a, c), small(b, d))
				}
			}
		}
	}
}

// P3.3: in all forms.
func TestReckoning(t *testing.T) {
	r := rand.New(rand.NewSource(11))
	list := samples(r, 4)
	for _, x := range list {
		for _, y := range list {
			checkTwo(t, forms(of(x))[r.Intn(4)], forms(of(y))[r.Intn(4)])
		}
	}
	for range 250 {
		x, y := random(r, 1+r.Intn(mostBits)), random(r, 1+r.Intn(mostBits))
		checkTwo(t, of(x), of(y))
		checkTwo(t, of(x), loose(of(new(big.Rat).Neg(x)), 1))
		// Of parts of half the size all answers have room, or nearly so.
		x, y = random(r, mostBits/2+r.Intn(3)-1), random(r, mostBits/2+r.Intn(3)-1)
		checkTwo(t, of(x), of(y))
	}
}

// P3.3
func TestNeg(t *testing.T) {
	r := rand.New(rand.NewSource(12))
	for _, x := range samples(r, 60) {
		for _, a := range forms(of(x)) {
			got, e := ratio.Neg(a)
			check(t, fmt.Sprintf("Neg(%v)", x), got, e, new(big.Rat).Neg(x))
		}
	}
}

// P3.3: the last answers that fit, and the first that don't, in either part.
func TestLastThatFits(t *testing.T) {
	one := big.NewInt(1)
	for _, n := range []int{1, 2, 62, 63, 64, 65, 2000, 2047, 2048, 2049, 4000, 4094, 4095} {
		rest := new(big.Int).Sub(most(), power(n))
		for d := int64(-1); d <= 1; d++ {
			a, b := plus(rest, d), power(n)
			for _, x := range [][2]*big.Int{{a, b}, {minus(a), minus(b)}, {b, a}, {a, minus(b)}} {
				for _, den := range []*big.Int{one, big.NewInt(3), power(mostBits - 1), most()} {
					checkTwo(t, told(x[0], den), told(x[1], den))
					checkTwo(t, told(x[0], den), told(minus(x[1]), den))
				}
			}
		}
		for d := int64(-1); d <= 1; d++ {
			a, b := plus(power(n), d), plus(power(mostBits-n), d)
			for _, x := range [][2]*big.Int{{a, b}, {minus(a), b}, {a, minus(power(mostBits - n - 1))}} {
				if x[0].Sign() == 0 {
					continue
				}
				checkTwo(t, told(x[0], one), told(x[1], one))
				checkTwo(t, told(one, a), told(one, b))
				checkTwo(t, told(x[0], one), told(one, new(big.Int).Abs(x[1])))
				checkTwo(t, told(one, a), told(x[1], big.NewInt(5)))
			}
		}
	}
}

// sumTakenOut is two ratios whose Dens have something in common, and whose sum has the same in common in both of its parts, made by the others: up to twice MaxBits bits of them are needed on the way to it. It tells nil, if it found none.
func sumTakenOut(r *rand.Rand) (*big.Rat, *big.Rat) {
	bits := 1 + r.Intn(mostBits-1)
	room := 1 + r.Intn(min(mostBits-bits, mostBits/2))
	divisor, own, others := number(r, bits), number(r, room), number(r, room)
	inverse := new(big.Int).ModInverse(own, divisor)
	if inverse == nil {
		return nil, nil
	}
	a := number(r, 1+r.Intn(min(mostBits, mostBits+bits-room)))
	// a others + c own is 0 over the divisor.
	c := times(minus(times(a, others)), inverse)
	c.Mod(c, divisor)
	c.Add(c, times(divisor, number(r, r.Intn(max(1, mostBits-max(bits, room))))))
	x, y := rat(a, times(own, divisor)), rat(c, times(others, divisor))
	if !has(x) || !has(y) {
		return nil, nil
	}
	if r.Intn(2) == 0 {
		return x.Neg(x), y.Neg(y)
	}
	return x, y
}

// P3.3: sums that fit only once what their parts have in common is taken out.
func TestSumsTakenOut(t *testing.T) {
	r := rand.New(rand.NewSource(13))
	fit := 0
	for range 300 {
		x, y := sumTakenOut(r)
		if x == nil {
			continue
		}
		if sum := new(big.Rat).Add(x, y); has(sum) && x.Num().BitLen()+y.Denom().BitLen()-sum.Denom().BitLen() > 64 {
			fit++
		}
		i := r.Intn(4)
		checkTwo(t, forms(of(x))[i], forms(of(y))[3-i])
		checkTwo(t, forms(of(x))[i], forms(of(new(big.Rat).Neg(y)))[3-i])
	}
	if fit < 50 {
		t.Errorf("only %d sums fit", fit)
	}
}

// P3.3: the same where it comes to a bit.
func TestSumsTakenOutJust(t *testing.T) {
	// Both Dens the greatest, and the sum's parts of twice as many bits each on the way, were they made by the parts as they stand.
	for _, x := range [][4]*big.Int{
		{plus(most(), -1), most(), big.NewInt(1), most()},
		{plus(most(), -1), most(), plus(most(), -1), most()},
		{big.NewInt(1), power(mostBits - 1), big.NewInt(1), power(mostBits - 1)},
		{plus(most(), 0), power(mostBits - 1), big.NewInt(1), power(mostBits - 1)},
		{plus(most(), -2), power(mostBits - 1), big.NewInt(1), power(mostBits - 1)},
		{most(), power(mostBits - 1), minus(plus(most(), -2)), power(mostBits - 1)},
		{most(), power(mostBits - 1), plus(most(), -2), power(mostBits - 1)},
		{most(), big.NewInt(2), most(), big.NewInt(2)},
		{plus(power(mostBits-1), -1), most(), power(mostBits - 1), most()},
	} {
		checkTwo(t, told(x[0], x[1]), told(x[2], x[3]))
		checkTwo(t, told(minus(x[0]), x[1]), told(minus(x[2]), x[3]))
		checkTwo(t, told(x[2], x[3]), told(x[0], x[1]))
		checkTwo(t, told(minus(x[0]), x[1]), told(x[2], x[3]))
	}
}

// P3.3: differences whose Dens have nothing in common, so that what is reckoned with has twice MaxBits bits; the Num that comes of it has few, but the Den doesn't fit.
func TestSmallDifferences(t *testing.T) {
	a, b := plus(most(), 0), plus(most(), -1)
	for _, x := range []struct{ num1, den1, num2, den2 *big.Int }{
		{a, b, plus(a, -1), plus(b, -1)}, {b, a, plus(b, -1), plus(a, -1)}, {a, b, b, a}, {a, power(mostBits - 1), a, plus(power(mostBits-1), 1)},
	} {
		checkTwo(t, told(x.num1, x.den1), told(x.num2, x.den2))
		checkTwo(t, told(minus(x.num1), x.den1), told(x.num2, x.den2))
		checkTwo(t, told(x.num2, x.den2), told(minus(x.num1), x.den1))
	}
}

// P3.3: products and quotients whose parts need twice MaxBits bits ahead of what they have in common.
func TestProductsTakenOut(t *testing.T) {
	r := rand.New(rand.NewSource(14))
	for range 300 {
		n := 1 + r.Intn(mostBits-1)
		p, q := number(r, n), number(r, 1+r.Intn(mostBits))
		s, u := number(r, 1+r.Intn(mostBits-n)), number(r, 1+r.Intn(mostBits-n))
		x, y := rat(times(p, s), q), rat(q, times(p, u))
		if r.Intn(2) == 0 {
			x.Neg(x)
		}
		if !has(x) || !has(y) {
			continue
		}
		i := r.Intn(4)
		checkTwo(t, forms(of(x))[i], forms(of(y))[3-i])
		checkTwo(t, forms(of(x))[i], forms(of(new(big.Rat).Inv(y)))[3-i])
	}
	top, low := told(power(mostBits-1), most()), told(most(), power(mostBits-1))
	checkTwo(t, top, low)
	checkTwo(t, top, top)
	checkTwo(t, low, low)
	checkTwo(t, told(minus(most()), plus(most(), -1)), told(plus(most(), -1), most()))
}

// P3.3: what is divided by 0 in all its forms, behind what P3.1 asks.
func TestByZero(t *testing.T) {
	for _, x := range edges() {
		for _, zero := range []api.Ratio{{Den: []uint64{1}}, {Num: api.Whole{Neg: true}, Den: []uint64{7, 0}}, {Num: api.Whole{Neg: true, Abs: make([]uint64, 99)}, Den: limbsOf(most())}} {
			got, e := ratio.Div(of(x), zero)
			refused(t, fmt.Sprintf("Div(%v, 0)", x), got, e, api.ErrZero)
		}
	}
	for _, a := range past() {
		got, e := ratio.Div(a, small(0, 1))
		refused(t, "too great a ratio over 0", got, e, api.ErrLimit)
	}
}

// raised is what the library tells of a power. (Exponents above 2^14 only of 0, 1 and -1; of others the answer has no room then, and something without it is told.)
func raised(x *big.Rat, n *big.Int) *big.Rat {
	num, den := x.Num(), x.Denom()
	if n.Sign() < 0 {
		inverse := new(big.Rat).Inv(x)
		num, den, n = inverse.Num(), inverse.Denom(), minus(n)
	}
	switch {
	case num.CmpAbs(den) == 0:
		return new(big.Rat).SetInt(new(big.Int).Exp(num, new(big.Int).And(n, big.NewInt(1)), nil))
	case num.Sign() == 0:
		return new(big.Rat).SetInt64(map[bool]int64{true: 1}[n.Sign() == 0])
	case n.BitLen() > 14:
		return new(big.Rat).SetInt(power(mostBits))
	}
	return rat(new(big.Int).Exp(num, n, nil), new(big.Int).Exp(den, n, nil))
}

// checkPow holds a power against the library's, its exponent as a ratio in all forms.
func checkPow(t *testing.T, x *big.Rat, n *big.Int) {
	t.Helper()
	exponent := of(new(big.Rat).SetInt(n))
	for i, a := range forms(of(x)) {
		got, e := ratio.Pow(a, forms(exponent)[3-i])
		if x.Sign() == 0 && n.Sign() < 0 {
			refused(t, fmt.Sprintf("Pow(0, %v)", n), got, e, api.ErrZero)
		} else if !right(got, e, raised(x, n)) {
			t.Fatalf("Pow(%v, %v) in the %dth form: %v, error %d", x, n, i, got, e)
		}
	}
}

// P3.4
func TestPow(t *testing.T) {
	for a := int64(-5); a <= 5; a++ {
		for b := int64(1); b <= 5; b++ {
			for n := int64(-9); n <= 9; n++ {
				checkPow(t, big.NewRat(a, b), big.NewInt(n))
			}
		}
	}
	// About the last power that fits, on both sides of 0.
	r := rand.New(rand.NewSource(15))
	list := edges()
	for range 25 {
		list = append(list, random(r, 2+r.Intn(500)))
	}
	for _, x := range list {
		bits := max(x.Num().BitLen(), x.Denom().BitLen())
		if bits < 2 {
			continue
		}
		last := int64(0)
		for has(raised(x, big.NewInt(last+1))) {
			last++
		}
		for _, n := range []int64{0, 1, 2, 3, last - 1, last, last + 1, last + 2, 2*last + 1} {
			n = max(n, 0)
			checkPow(t, x, big.NewInt(n))
			checkPow(t, x, big.NewInt(-n))
		}
	}
}

// P3.4: powers of 2 and of a half, up to the first that don't fit.
func TestPowersOfTwo(t *testing.T) {
	for n := int64(4090); n <= 4100; n++ {
		for _, x := range []*big.Rat{big.NewRat(2, 1), big.NewRat(-2, 1), big.NewRat(1, 2), big.NewRat(-1, 2)} {
			checkPow(t, x, big.NewInt(n))
			checkPow(t, x, big.NewInt(-n))
		}
	}
}

// P3.4: exponents without measure.
func TestGreatExponents(t *testing.T) {
	for _, n := range []*big.Int{ten(1000), plus(ten(1000), 1), power(63), plus(power(63), 1), plus(power(64), -1), power(64), plus(power(64), 1), power(mostBits - 1), plus(power(mostBits-1), 1), most(), plus(most(), -1)} {
		for _, n := range []*big.Int{n, minus(n)} {
			for _, x := range append([]*big.Rat{big.NewRat(3, 2), big.NewRat(-2, 3), big.NewRat(1, 3), big.NewRat(-4, 1)}, edges()...) {
				checkPow(t, x, n)
			}
		}
	}
}

// P3.4: exponents that are no whole numbers, 0 below 0, and the order of the errors.
func TestPowRefused(t *testing.T) {
	exponents := []api.Ratio{small(1, 2), small(-1, 2), small(7, 3), small(-9, 6), small(3, 6), told(most(), big.NewInt(2)), told(minus(most()), plus(most(), -1)), told(big.NewInt(1), most())}
	bases := []api.Ratio{small(4, 1), small(1, 1), small(-1, 1), small(0, 1), loose(small(0, 9), 1), small(2, 3), told(most(), big.NewInt(1))}
	for _, n := range exponents {
		for _, a := range bases {
			got, e := ratio.Pow(a, n)
			refused(t, fmt.Sprintf("Pow(%v, %v)", a, n), got, e, api.ErrPower)
		}
	}
	for _, n := range []api.Ratio{small(-1, 1), small(-2, 1), small(-6, 3), told(minus(most()), big.NewInt(1)), loose(small(-5, 5), 3)} {
		for _, zero := range []api.Ratio{small(0, 1), loose(small(0, 9), 2)} {
			got, e := ratio.Pow(zero, n)
			refused(t, "Pow(0, below 0)", got, e, api.ErrZero)
		}
	}
	// 0 with Neg is not below 0. (What P3.1 asks comes ahead of all this: see TestPast and TestNone.)
	got, e := ratio.Pow(small(2, 1), loose(small(0, 3), 1))
	check(t, "Pow(2, -0)", got, e, big.NewRat(1, 1))
	got, e = ratio.Pow(small(0, 3), loose(small(0, 3), 1))
	check(t, "Pow(0, -0)", got, e, big.NewRat(1, 1))
}
