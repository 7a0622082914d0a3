package modular_test

import (
	"math/big"
	"math/rand"
	"slices"
	"testing"

	"vouch/api"
	"vouch/modular"
)

// must is an answer without an error.
func must(t *testing.T) func(a []uint64, e api.Errno) []uint64 {
	return func(a []uint64, e api.Errno) []uint64 {
		t.Helper()
		if e != api.OK {
			t.Fatalf("error %d", e)
		}
		return a
	}
}

// P4.6: sums and products in any order and grouping; what is added is taken away again.
func TestLaws(t *testing.T) {
	r := rand.New(rand.NewSource(51))
	ok := must(t)
	for range 200 {
		m := listOf(number(r, 1+r.Intn(keyBits)))
		a, b, c := listOf(number(r, r.Intn(mostBits+1))), listOf(number(r, r.Intn(mostBits+1))), listOf(number(r, r.Intn(mostBits+1)))
		add := func(a, b []uint64) []uint64 { return ok(modular.Add(a, b, m)) }
		mul := func(a, b []uint64) []uint64 { return ok(modular.Mul(a, b, m)) }
		for what, x := range map[string][2][]uint64{
			"a + b, b + a":             {add(a, b), add(b, a)},
			"(a + b) + c, a + (b + c)": {add(add(a, b), c), add(a, add(b, c))},
			"a b, b a":                 {mul(a, b), mul(b, a)},
			"(a b) c, a (b c)":         {mul(mul(a, b), c), mul(a, mul(b, c))},
			"a (b + c), a b + a c":     {mul(a, add(b, c)), add(mul(a, b), mul(a, c))},
			"(a + b) - b, a":           {ok(modular.Sub(add(a, b), b, m)), ok(modular.Of(a, m))},
			"(a - b) + b, a":           {add(ok(modular.Sub(a, b, m)), b), ok(modular.Of(a, m))},
		} {
			if !slices.Equal(x[0], x[1]) {
				t.Fatalf("%s over %x: %x and %x", what, m, x[0], x[1])
			}
		}
	}
}

// P4.6: each call answers the same of numbers that leave the same (of exponents that is not so).
func TestSameLeft(t *testing.T) {
	r := rand.New(rand.NewSource(52))
	for range 60 {
		m := number(r, 1+r.Intn(keyBits))
		a, b := number(r, r.Intn(keyBits)), number(r, r.Intn(keyBits))
		over := listOf(m)
		further := func(n *big.Int) []uint64 {
			times := number(r, 1+r.Intn(mostBits-1-max(m.BitLen(), n.BitLen())))
			return listOf(times.Mul(times, m).Add(times, n))
		}
		for name, f := range single {
			one, e := f(listOf(a), over)
			other, otherE := f(further(a), over)
			if e != otherE || !slices.Equal(one, other) {
				t.Fatalf("%s of %x over %x: %x, error %d, and %x, error %d", name, a, m, one, e, other, otherE)
			}
		}
		exponent := small(r.Int63n(1000))
		for name, f := range two {
			second, otherSecond := listOf(b), further(b)
			if name == "Pow" {
				second, otherSecond = exponent, exponent
			}
			one, e := f(listOf(a), second, over)
			other, otherE := f(further(a), otherSecond, over)
			if e != api.OK || otherE != api.OK || !slices.Equal(one, other) {
				t.Fatalf("%s of %x over %x: %x, error %d, and %x, error %d", name, a, m, one, e, other, otherE)
			}
		}
	}
}

// P4.6: Pow of a sum of exponents is the product of the powers.
func TestPowers(t *testing.T) {
	r := rand.New(rand.NewSource(53))
	ok := must(t)
	for range 60 {
		m, a := listOf(number(r, 1+r.Intn(900))), listOf(number(r, r.Intn(2000)))
		x, y := number(r, r.Intn(300)), number(r, r.Intn(300))
		product := ok(modular.Mul(ok(modular.Pow(a, listOf(x), m)), ok(modular.Pow(a, listOf(y), m)), m))
		if sum := ok(modular.Pow(a, listOf(x.Add(x, y)), m)); !slices.Equal(sum, product) {
			t.Fatalf("Pow of %x over %x: %x and %x", a, m, sum, product)
		}
	}
}

// P4.6: a number times its Inverse leaves 1, and the Inverse of that is what the number leaves.
func TestInverseBack(t *testing.T) {
	r := rand.New(rand.NewSource(54))
	ok := must(t)
	for found := 0; found < 150; {
		m, a := listOf(number(r, 2+r.Intn(keyBits-1))), listOf(number(r, r.Intn(mostBits+1)))
		x, e := modular.Inverse(a, m)
		if e == api.ErrInverse {
			continue
		}
		found++
		if one := ok(modular.Mul(a, x, m)); e != api.OK || !slices.Equal(one, small(1)) {
			t.Fatalf("%x times its Inverse over %x: %x, error %d", a, m, one, e)
		}
		if back := ok(modular.Inverse(x, m)); !slices.Equal(back, ok(modular.Of(a, m))) {
			t.Fatalf("Inverse of the Inverse of %x over %x: %x", a, m, back)
		}
	}
}

// P4.6: over a prime p, Pow(a, p - 1) is 1 of all that are no multiples of it, and Pow(a, p - 2) is the Inverse.
func TestPrimes(t *testing.T) {
	r := rand.New(rand.NewSource(55))
	ok := must(t)
	for _, p := range []*big.Int{big.NewInt(2), big.NewInt(3), big.NewInt(65537), plus(power(61), -1), plus(power(127), -1), plus(power(521), -1), plus(power(2203), -1)} {
		m, less, lesser := listOf(p), listOf(plus(p, -1)), listOf(plus(p, -2))
		for _, n := range []*big.Int{big.NewInt(1), plus(p, -1), plus(p, 1), number(r, p.BitLen()-1), number(r, p.BitLen()+300)} {
			if new(big.Int).Mod(n, p).Sign() == 0 {
				continue
			}
			a := listOf(n)
			if one := ok(modular.Pow(a, less, m)); !slices.Equal(one, small(1)) {
				t.Fatalf("Pow(%x, p - 1) over p = %x: %x", a, p, one)
			}
			if x := ok(modular.Inverse(a, m)); !slices.Equal(x, ok(modular.Pow(a, lesser, m))) {
				t.Fatalf("Inverse(%x) over %x: %x", a, p, x)
			}
		}
		if none := ok(modular.Pow(m, less, m)); len(none) > 0 {
			t.Fatalf("Pow(p, p - 1) over p = %x: %x", p, none)
		}
	}
}
