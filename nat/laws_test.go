package nat_test

import (
	"math/rand"
	"slices"
	"testing"

	"vouch/api"
	"vouch/nat"
)

// must is an answer without an error.
func must(t *testing.T) func(a []uint64, e api.Errno) []uint64 {
	return func(a []uint64, e api.Errno) []uint64 {
		t.Helper()
		if e != api.OK {
			t.Fatalf("error %d", e)
		}
		return a
	}
}

// P1.9: sums and products in any order and grouping.
func TestLaws(t *testing.T) {
	r := rand.New(rand.NewSource(11))
	m := must(t)
	for range 300 {
		n := r.Intn(42)
		a, b, c := random(r, n), random(r, r.Intn(42)), random(r, r.Intn(42))
		for what, x := range map[string][2][]uint64{
			"a + b, b + a":             {m(nat.Add(a, b)), m(nat.Add(b, a))},
			"(a + b) + c, a + (b + c)": {m(nat.Add(m(nat.Add(a, b)), c)), m(nat.Add(a, m(nat.Add(b, c))))},
			"a b, b a":                 {m(nat.Mul(a, b)), m(nat.Mul(b, a))},
			"(a b) c, a (b c)":         {m(nat.Mul(m(nat.Mul(a, b)), c)), m(nat.Mul(a, m(nat.Mul(b, c))))},
			"a (b + c), a b + a c":     {m(nat.Mul(a, m(nat.Add(b, c)))), m(nat.Add(m(nat.Mul(a, b)), m(nat.Mul(a, c))))},
			"(a + b) - b, a":           {m(nat.Sub(m(nat.Add(a, b)), b)), a},
		} {
			if !slices.Equal(x[0], x[1]) {
				t.Fatalf("%s: %x and %x", what, x[0], x[1])
			}
		}
	}
}

// P1.9: large factors, one of them parted over a sum.
func TestLargeLaws(t *testing.T) {
	r := rand.New(rand.NewSource(12))
	m := must(t)
	for n := 20; n < 63; n++ {
		a, b, c := random(r, n), random(r, 63), random(r, 64)
		left := m(nat.Mul(a, m(nat.Add(b, c))))
		right := m(nat.Add(m(nat.Mul(a, b)), m(nat.Mul(a, c))))
		if !slices.Equal(left, right) {
			t.Fatalf("a (b + c): %x and %x", left, right)
		}
	}
}

// P1.9: a is b times what Div tells first, and what it tells second, which is below b.
func TestDivBack(t *testing.T) {
	r := rand.New(rand.NewSource(13))
	m := must(t)
	for range 2000 {
		a, b := random(r, r.Intn(limbs+1)), random(r, 1+r.Intn(limbs))
		q, rest, e := nat.Div(a, b)
		if e != api.OK || nat.Cmp(rest, b) >= 0 {
			t.Fatalf("Div(%x, %x): %x, %x, error %d", a, b, q, rest, e)
		}
		if back := m(nat.Add(m(nat.Mul(q, b)), rest)); !slices.Equal(back, a) {
			t.Fatalf("Div(%x, %x) back: %x", a, b, back)
		}
	}
}

// P1.9: Shift is Mul by a power of 2, or Div by it.
func TestShiftIsMul(t *testing.T) {
	r := rand.New(rand.NewSource(14))
	m := must(t)
	for range 1000 {
		n := r.Intn(mostBits)
		power := m(nat.Shift([]uint64{1}, n))
		a := random(r, r.Intn(limbs+1))
		up, e := nat.Shift(a, n)
		times, timesE := nat.Mul(a, power)
		if e != timesE || !slices.Equal(up, times) {
			t.Fatalf("Shift by %d: %x, error %d; Mul: %x, error %d", n, up, e, times, timesE)
		}
		often, _, divE := nat.Div(a, power)
		if down, e := nat.Shift(a, -n); e != divE || !slices.Equal(down, often) {
			t.Fatalf("Shift by %d: %x, error %d; Div: %x, error %d", -n, down, e, often, divE)
		}
	}
}

// P1.9: texts and bytes lead back.
func TestThereAndBack(t *testing.T) {
	r := rand.New(rand.NewSource(15))
	m := must(t)
	for _, a := range samples(r, 200) {
		s, e := nat.Text(a)
		if back := m(nat.Parse(s)); e != api.OK || !slices.Equal(back, a) {
			t.Fatalf("Parse of Text: %x, want %x", back, a)
		}
		b, e := nat.Bytes(a)
		if back := m(nat.From(b)); e != api.OK || !slices.Equal(back, a) {
			t.Fatalf("From of Bytes: %x, want %x", back, a)
		}
	}
}
