package whole_test

import (
	"math/big"
	"math/rand"
	"testing"

	"vouch/api"
	"vouch/whole"
)

// must is an answer without an error.
func must(t *testing.T) func(a api.Whole, e api.Errno) api.Whole {
	return func(a api.Whole, e api.Errno) api.Whole {
		t.Helper()
		if e != api.OK {
			t.Fatalf("error %d", e)
		}
		return a
	}
}

// P2.8: sums and products in any order and grouping.
func TestLaws(t *testing.T) {
	r := rand.New(rand.NewSource(11))
	m := must(t)
	for range 1000 {
		a, b, c := of(random(r, r.Intn(1300))), of(random(r, r.Intn(1300))), of(random(r, r.Intn(1300)))
		for what, x := range map[string][2]api.Whole{
			"a + b, b + a":             {m(whole.Add(a, b)), m(whole.Add(b, a))},
			"(a + b) + c, a + (b + c)": {m(whole.Add(m(whole.Add(a, b)), c)), m(whole.Add(a, m(whole.Add(b, c))))},
			"a b, b a":                 {m(whole.Mul(a, b)), m(whole.Mul(b, a))},
			"(a b) c, a (b c)":         {m(whole.Mul(m(whole.Mul(a, b)), c)), m(whole.Mul(a, m(whole.Mul(b, c))))},
			"a (b + c), a b + a c":     {m(whole.Mul(a, m(whole.Add(b, c)))), m(whole.Add(m(whole.Mul(a, b)), m(whole.Mul(a, c))))},
			"a - b, a + -b":            {m(whole.Sub(a, b)), m(whole.Add(a, m(whole.Neg(b))))},
			"(a + b) - b, a":           {m(whole.Sub(m(whole.Add(a, b)), b)), a},
		} {
			if !same(x[0], x[1]) {
				t.Fatalf("%s: %v and %v", what, x[0], x[1])
			}
		}
	}
}

// P2.8: a is b times Quo, and Rem; P2.4: Rem is 0, or has a's sign, and its worth is below b's.
func TestQuoBack(t *testing.T) {
	r := rand.New(rand.NewSource(12))
	m := must(t)
	for range 3000 {
		a, b := of(random(r, r.Intn(mostBits+1))), of(random(r, 1+r.Intn(mostBits)))
		often, left := m(whole.Quo(a, b)), m(whole.Rem(a, b))
		if back := m(whole.Add(m(whole.Mul(often, b)), left)); !same(back, a) {
			t.Fatalf("b Quo(a, b) + Rem(a, b): %v, want %v", back, a)
		}
		if s := whole.Sign(left); s != 0 && s != whole.Sign(a) || bigOf(left).CmpAbs(bigOf(b)) >= 0 {
			t.Fatalf("Rem(%v, %v): %v", a, b, left)
		}
	}
}

// P2.8: Pow of a sum of exponents is the product of the powers.
func TestPowerOfSum(t *testing.T) {
	r := rand.New(rand.NewSource(13))
	m := must(t)
	for range 1000 {
		a := of(random(r, r.Intn(65)))
		n, k := int64(r.Intn(32)), int64(r.Intn(32))
		left := m(whole.Pow(a, small(n+k)))
		right := m(whole.Mul(m(whole.Pow(a, small(n))), m(whole.Pow(a, small(k)))))
		if !same(left, right) {
			t.Fatalf("%v to the power of %d + %d: %v and %v", a, n, k, left, right)
		}
	}
	for a := int64(-1); a <= 1; a++ {
		for range 50 {
			n, k := new(big.Int).Abs(random(r, 4000)), new(big.Int).Abs(random(r, r.Intn(4000)))
			left := m(whole.Pow(small(a), of(new(big.Int).Add(n, k))))
			right := m(whole.Mul(m(whole.Pow(small(a), of(n))), m(whole.Pow(small(a), of(k)))))
			if !same(left, right) {
				t.Fatalf("%d to the power of %v + %v: %v and %v", a, n, k, left, right)
			}
		}
	}
}

// P2.8: Parse of Text is the number.
func TestThereAndBack(t *testing.T) {
	r := rand.New(rand.NewSource(14))
	m := must(t)
	for _, n := range samples(r, 200) {
		text, e := whole.Text(of(n))
		if back := m(whole.Parse(text)); e != api.OK || !same(back, of(n)) {
			t.Fatalf("Parse of Text: %v, want %v", back, n)
		}
	}
}
