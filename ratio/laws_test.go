package ratio_test

import (
	"math/big"
	"math/rand"
	"strings"
	"testing"

	"vouch/api"
	"vouch/ratio"
)

// must is an answer without an error.
func must(t *testing.T) func(a api.Ratio, e api.Errno) api.Ratio {
	return func(a api.Ratio, e api.Errno) api.Ratio {
		t.Helper()
		if e != api.OK {
			t.Fatalf("error %d", e)
		}
		return a
	}
}

// P3.8: sums and products in any order and grouping; what is added is taken away again, what is multiplied is divided away.
func TestLaws(t *testing.T) {
	r := rand.New(rand.NewSource(31))
	m := must(t)
	for range 400 {
		a, b, c := of(random(r, 1+r.Intn(650))), of(random(r, 1+r.Intn(650))), of(random(r, 1+r.Intn(650)))
		for what, x := range map[string][2]api.Ratio{
			"a + b, b + a":             {m(ratio.Add(a, b)), m(ratio.Add(b, a))},
			"(a + b) + c, a + (b + c)": {m(ratio.Add(m(ratio.Add(a, b)), c)), m(ratio.Add(a, m(ratio.Add(b, c))))},
			"a b, b a":                 {m(ratio.Mul(a, b)), m(ratio.Mul(b, a))},
			"(a b) c, a (b c)":         {m(ratio.Mul(m(ratio.Mul(a, b)), c)), m(ratio.Mul(a, m(ratio.Mul(b, c))))},
			"a (b + c), a b + a c":     {m(ratio.Mul(a, m(ratio.Add(b, c)))), m(ratio.Add(m(ratio.Mul(a, b)), m(ratio.Mul(a, c))))},
			"a - b, a + -b":            {m(ratio.Sub(a, b)), m(ratio.Add(a, m(ratio.Neg(b))))},
			"(a + b) - b, a":           {m(ratio.Sub(m(ratio.Add(a, b)), b)), a},
			"(a - b) + b, a":           {m(ratio.Add(m(ratio.Sub(a, b)), b)), a},
		} {
			if !same(x[0], x[1]) {
				t.Fatalf("%s: %v and %v", what, x[0], x[1])
			}
		}
		if len(b.Num.Abs) == 0 {
			continue
		}
		for what, x := range map[string]api.Ratio{
			"(a b) / b": m(ratio.Div(m(ratio.Mul(a, b)), b)),
			"(a / b) b": m(ratio.Mul(m(ratio.Div(a, b)), b)),
		} {
			if !same(x, a) {
				t.Fatalf("%s: %v, want %v", what, x, a)
			}
		}
	}
}

// P3.8: a stands to b as a less b to 0; two ratios are the same just if Num of the one times Den of the other are.
func TestOrder(t *testing.T) {
	r := rand.New(rand.NewSource(32))
	m := must(t)
	for range 1000 {
		x := random(r, 1+r.Intn(mostBits/2-1))
		y := random(r, 1+r.Intn(mostBits/2-1))
		if r.Intn(2) == 0 {
			y = new(big.Rat).Set(x)
		}
		a, b := forms(of(x))[r.Intn(4)], forms(of(y))[r.Intn(4)]
		stands, e := ratio.Cmp(a, b)
		if e != api.OK {
			t.Fatal(e)
		}
		toZero, e := ratio.Cmp(m(ratio.Sub(a, b)), small(0, 1))
		if e != api.OK || stands != toZero {
			t.Fatalf("Cmp(a, b) %d, Cmp(a - b, 0) %d: %v, %v", stands, toZero, x, y)
		}
		crossed := times(x.Num(), y.Denom()).Cmp(times(y.Num(), x.Denom()))
		if stands != crossed {
			t.Fatalf("Cmp(a, b) %d, crosswise %d: %v, %v", stands, crossed, x, y)
		}
		if back, e := ratio.Cmp(b, a); e != api.OK || back != -stands {
			t.Fatalf("Cmp(b, a) %d, Cmp(a, b) %d", back, stands)
		}
	}
}

// P3.8: a text without / that Text tells is read again as the ratio; one with / is not read.
func TestThereAndBack(t *testing.T) {
	r := rand.New(rand.NewSource(33))
	list := samples(r, 100)
	for _, x := range samples(r, 100) {
		list = append(list, rat(x.Num(), big.NewInt(1)))
	}
	for _, x := range list {
		text, e := ratio.Text(of(x))
		if e != api.OK {
			t.Fatal(e)
		}
		got, e := ratio.Parse(text)
		if strings.Contains(text, "/") {
			refused(t, "Parse of "+text, got, e, api.ErrDigit)
		} else {
			check(t, "Parse of "+text, got, e, x)
		}
	}
}

// P3.8: a power of a sum of exponents is the product of the powers, on both sides of 0.
func TestPowerOfSum(t *testing.T) {
	r := rand.New(rand.NewSource(34))
	m := must(t)
	for range 500 {
		x := random(r, 1+r.Intn(60))
		if x.Sign() == 0 {
			continue
		}
		n, k := int64(r.Intn(61)-30), int64(r.Intn(61)-30)
		left := m(ratio.Pow(of(x), small(n+k, 1)))
		right := m(ratio.Mul(m(ratio.Pow(of(x), small(n, 1))), m(ratio.Pow(of(x), small(k, 1)))))
		if !same(left, right) {
			t.Fatalf("%v to the power of %d + %d: %v and %v", x, n, k, left, right)
		}
	}
}
