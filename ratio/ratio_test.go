package ratio_test

import (
	"fmt"
	"math/big"
	"math/rand"
	"slices"
	"testing"

	"vouch/api"
	"vouch/ratio"
)

// P3.1: what is handed in has to fit as it is told, whatever comes of it, and ahead of all other errors.
func TestPast(t *testing.T) {
	others := append(past()[:12], nones()...)
	for _, x := range [][2]int64{{0, 1}, {1, 1}, {-1, 1}, {2, 1}, {-2, 1}, {1, 2}, {-7, 3}} {
		others = append(others, small(x[0], x[1]))
	}
	for i, a := range past() {
		for name, f := range single {
			got, e := f(a)
			refused(t, fmt.Sprintf("%s of the %dth ratio too great", name, i), got, e, api.ErrLimit)
		}
		for name, f := range two {
			for _, b := range others {
				got, e := f(a, b)
				refused(t, fmt.Sprintf("%s of the %dth ratio too great and %v", name, i, b), got, e, api.ErrLimit)
				got, e = f(b, a)
				refused(t, fmt.Sprintf("%s of %v and the %dth ratio too great", name, b, i), got, e, api.ErrLimit)
			}
		}
	}
}

// P3.1: behind the limit, and ahead of all other errors, it is asked whether it is one.
func TestNone(t *testing.T) {
	others := append([]api.Ratio{small(0, 1), small(0, -1), small(1, 2), small(-1, 2), small(-1, 1), small(3, 1), told(most(), big.NewInt(1)), told(big.NewInt(1), most())}, nones()...)
	for _, a := range nones() {
		for name, f := range single {
			got, e := f(a)
			refused(t, name+" of none", got, e, api.ErrZero)
		}
		for name, f := range two {
			for _, b := range others {
				got, e := f(a, b)
				refused(t, fmt.Sprintf("%s of none and %v", name, b), got, e, api.ErrZero)
				got, e = f(b, a)
				refused(t, fmt.Sprintf("%s of %v and none", name, b), got, e, api.ErrZero)
			}
		}
	}
}

// P3.1: parts of just so many bits fit, and 0s behind them count for nothing, however many.
func TestJustFits(t *testing.T) {
	one, zero := big.NewRat(1, 1), new(big.Rat)
	for _, x := range []*big.Rat{zero, rat(most(), one.Num()), rat(minus(most()), one.Num()), rat(one.Num(), most()), rat(most(), plus(most(), -1)), rat(minus(plus(most(), -1)), most())} {
		for _, noughts := range []int{0, 1, 64, 65, 1000} {
			a := loose(of(x), noughts)
			text, e := ratio.Text(a)
			if e != api.OK || text != x.RatString() {
				t.Errorf("Text with %d 0s: error %d", noughts, e)
			}
			got, e := ratio.Neg(a)
			check(t, "Neg", got, e, new(big.Rat).Neg(x))
			for name, want := range map[string]*big.Rat{"Add": x, "Sub": x, "Mul": zero, "Pow": one} {
				got, e := two[name](a, loose(of(zero), noughts))
				check(t, name+" with 0", got, e, want)
			}
			for name, want := range map[string]*big.Rat{"Mul": x, "Div": x, "Pow": x} {
				got, e := two[name](a, loose(of(one), noughts))
				check(t, name+" with 1", got, e, want)
			}
			if k, e := ratio.Cmp(a, of(x)); k != 0 || e != api.OK {
				t.Errorf("Cmp with %d 0s: %d, error %d", noughts, k, e)
			}
		}
	}
}

// P3.1: as they are told, both parts of a ratio may be of so many bits, whatever they have in common.
func TestNotInForm(t *testing.T) {
	half := plus(power(mostBits-1), -1)
	whole := times(half, big.NewInt(2))
	for _, x := range []struct {
		num, den *big.Int
		want     *big.Rat
	}{
		{most(), most(), big.NewRat(1, 1)}, {minus(most()), most(), big.NewRat(-1, 1)}, {half, whole, big.NewRat(1, 2)}, {whole, half, big.NewRat(2, 1)}, {minus(whole), half, big.NewRat(-2, 1)}, {new(big.Int), most(), new(big.Rat)}, {power(mostBits - 1), power(mostBits - 1), big.NewRat(1, 1)},
	} {
		a := told(x.num, x.den)
		for name, want := range map[string]*big.Rat{"Add": new(big.Rat).Add(x.want, x.want), "Sub": new(big.Rat), "Mul": new(big.Rat).Mul(x.want, x.want)} {
			got, e := two[name](a, a)
			check(t, name, got, e, want)
		}
		got, e := ratio.Neg(a)
		check(t, "Neg", got, e, new(big.Rat).Neg(x.want))
		if text, e := ratio.Text(a); e != api.OK || text != x.want.RatString() {
			t.Errorf("Text: %s, error %d, want %s", text, e, x.want.RatString())
		}
	}
}

// P3.2
func TestOf(t *testing.T) {
	r := rand.New(rand.NewSource(1))
	list := []*big.Int{new(big.Int), big.NewInt(1), big.NewInt(2), big.NewInt(4), big.NewInt(6), power(64), plus(power(64), -1), power(mostBits - 1), most(), plus(most(), -1)}
	for range 25 {
		list = append(list, number(r, 1+r.Intn(mostBits)), number(r, 1+r.Intn(130)))
	}
	for _, n := range slices.Clone(list) {
		list = append(list, minus(n))
	}
	for _, num := range list {
		for _, den := range list {
			if den.Sign() == 0 {
				continue
			}
			got, e := ratio.Of(wholeOf(num), wholeOf(den))
			check(t, fmt.Sprintf("Of(%v, %v)", num, den), got, e, rat(num, den))
		}
	}
}

// P3.2: 0 in all its forms, and 0s at the parts' ends.
func TestOfOtherForms(t *testing.T) {
	for _, zero := range []api.Whole{{}, {Neg: true}, {Abs: []uint64{0}}, {Neg: true, Abs: make([]uint64, 400)}} {
		for _, den := range []int64{1, -1, 5, -5} {
			got, e := ratio.Of(zero, wholeOf(big.NewInt(den)))
			check(t, "Of(0, n)", got, e, new(big.Rat))
			got, e = ratio.Of(wholeOf(big.NewInt(den)), zero)
			refused(t, "Of(n, 0)", got, e, api.ErrZero)
		}
		got, e := ratio.Of(zero, zero)
		refused(t, "Of(0, 0)", got, e, api.ErrZero)
		got, e = ratio.From(zero)
		check(t, "From(0)", got, e, new(big.Rat))
	}
	for _, n := range []int{1, 63, 64, 2000} {
		a, b := loose(small(6, 1), n), loose(small(4, 1), n)
		a.Num.Neg = true
		got, e := ratio.Of(a.Num, b.Num)
		check(t, "Of(-6, 4)", got, e, big.NewRat(-3, 2))
		got, e = ratio.From(a.Num)
		check(t, "From(-6)", got, e, big.NewRat(-6, 1))
	}
}

// P3.2: the order of the errors.
func TestOfRefused(t *testing.T) {
	for _, n := range []*big.Int{power(mostBits), plus(power(mostBits), 1), power(2 * mostBits), power(3 * mostBits)} {
		for _, a := range []api.Whole{wholeOf(n), wholeOf(minus(n)), loose(told(n, n), 5).Num} {
			for _, b := range []api.Whole{{}, {Neg: true}, wholeOf(big.NewInt(1)), wholeOf(big.NewInt(-2)), wholeOf(most()), a} {
				got, e := ratio.Of(a, b)
				refused(t, "Of(too great, b)", got, e, api.ErrLimit)
				got, e = ratio.Of(b, a)
				refused(t, "Of(b, too great)", got, e, api.ErrLimit)
			}
			got, e := ratio.From(a)
			refused(t, "From of too great a number", got, e, api.ErrLimit)
		}
	}
	for _, n := range []*big.Int{new(big.Int), big.NewInt(1), big.NewInt(-1), most(), minus(most())} {
		got, e := ratio.Of(wholeOf(n), api.Whole{})
		refused(t, fmt.Sprintf("Of(%v, 0)", n), got, e, api.ErrZero)
	}
}

// P3.2
func TestFrom(t *testing.T) {
	r := rand.New(rand.NewSource(2))
	list := []*big.Int{new(big.Int), big.NewInt(1), big.NewInt(12), most(), plus(most(), -1), power(mostBits - 1), power(64)}
	for range 100 {
		list = append(list, number(r, r.Intn(mostBits+1)))
	}
	for _, n := range list {
		for _, n := range []*big.Int{n, minus(n)} {
			got, e := ratio.From(wholeOf(n))
			check(t, fmt.Sprintf("From(%v)", n), got, e, rat(n, big.NewInt(1)))
		}
	}
}

// P3.2
func TestWhole(t *testing.T) {
	r := rand.New(rand.NewSource(3))
	list := samples(r, 60)
	for _, x := range samples(r, 40) {
		list = append(list, rat(x.Num(), big.NewInt(1)))
	}
	for _, x := range list {
		for _, a := range forms(of(x)) {
			got, ok := ratio.Whole(a)
			want := wholeOf(new(big.Int))
			if x.IsInt() {
				want = wholeOf(x.Num())
			}
			if ok != x.IsInt() || got.Neg != want.Neg || !slices.Equal(got.Abs, want.Abs) {
				t.Fatalf("Whole(%v): %v, %t", x, got, ok)
			}
		}
	}
	for i, a := range append(past(), nones()...) {
		if got, ok := ratio.Whole(a); ok || got.Neg || len(got.Abs) > 0 {
			t.Errorf("Whole of what is too great or none (%d): %v, %t", i, got, ok)
		}
	}
}

// P3.5
func TestCmp(t *testing.T) {
	r := rand.New(rand.NewSource(4))
	list := samples(r, 10)
	for _, x := range list {
		others := append(slices.Clone(list), new(big.Rat).Neg(x))
		for d := int64(-1); d <= 1; d++ {
			if near := rat(plus(x.Num(), d), x.Denom()); has(near) {
				others = append(others, near)
			}
			if den := plus(x.Denom(), d); den.Sign() > 0 && has(rat(x.Num(), den)) {
				others = append(others, rat(x.Num(), den))
			}
		}
		for _, y := range others {
			for i, a := range forms(of(x)) {
				b := forms(of(y))[3-i]
				if got, e := ratio.Cmp(a, b); e != api.OK || got != x.Cmp(y) {
					t.Fatalf("Cmp(%v, %v) in the %dth form: %d, error %d", x, y, i, got, e)
				}
			}
		}
	}
	for a := int64(-6); a <= 6; a++ {
		for b := int64(-6); b <= 6; b++ {
			for c := int64(1); c <= 6; c++ {
				for d := int64(1); d <= 6; d++ {
					if got, e := ratio.Cmp(small(a, c), small(b, d)); e != api.OK || got != big.NewRat(a, c).Cmp(big.NewRat(b, d)) {
						t.Fatalf("Cmp(%d/%d, %d/%d): %d, error %d", a, c, b, d, got, e)
					}
				}
			}
		}
	}
}

// 0 is one ratio, however it is told.
func TestZeros(t *testing.T) {
	zeros := []api.Ratio{{Den: []uint64{1}}, {Num: api.Whole{Neg: true}, Den: []uint64{1}}, {Num: api.Whole{Neg: true}, Den: []uint64{0, 0, 5, 0}}, {Num: api.Whole{Neg: true, Abs: make([]uint64, 400)}, Den: limbsOf(most())}}
	for _, a := range zeros {
		for _, b := range zeros {
			for _, name := range []string{"Add", "Sub", "Mul"} {
				got, e := two[name](a, b)
				check(t, name+" of 0s", got, e, new(big.Rat))
			}
			got, e := ratio.Pow(a, b)
			check(t, "Pow(0, 0)", got, e, big.NewRat(1, 1))
			got, e = ratio.Div(a, b)
			refused(t, "Div(0, 0)", got, e, api.ErrZero)
			if k, e := ratio.Cmp(a, b); k != 0 || e != api.OK {
				t.Errorf("Cmp of 0s: %d, error %d", k, e)
			}
		}
		for _, n := range []int64{-2, -1, 1, 2} {
			want := int(-n / max(n, -n))
			if k, e := ratio.Cmp(a, small(n, 3)); k != want || e != api.OK {
				t.Errorf("Cmp(0, %d/3): %d, error %d", n, k, e)
			}
			if k, e := ratio.Cmp(small(n, 3), a); k != -want || e != api.OK {
				t.Errorf("Cmp(%d/3, 0): %d, error %d", n, k, e)
			}
			got, e := ratio.Sub(a, small(n, 3))
			check(t, "0 - n/3", got, e, big.NewRat(-n, 3))
			got, e = ratio.Add(small(n, 3), a)
			check(t, "n/3 + 0", got, e, big.NewRat(n, 3))
			got, e = ratio.Mul(a, small(n, 3))
			check(t, "0 times n/3", got, e, new(big.Rat))
			got, e = ratio.Div(a, small(n, 3))
			check(t, "0 over n/3", got, e, new(big.Rat))
		}
		got, e := ratio.Neg(a)
		check(t, "Neg of 0", got, e, new(big.Rat))
		if w, ok := ratio.Whole(a); !ok || w.Neg || len(w.Abs) > 0 {
			t.Errorf("Whole of 0: %v, %t", w, ok)
		}
		if s, e := ratio.Text(a); s != "0" || e != api.OK {
			t.Errorf("Text of 0: %s, error %d", s, e)
		}
	}
}
