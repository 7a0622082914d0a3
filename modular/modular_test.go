package modular_test

import (
	"fmt"
	"math/big"
	"math/rand"
	"slices"
	"testing"

	"vouch/api"
	"vouch/modular"
)

// The chapter's examples.
func TestExamples(t *testing.T) {
	vast, great := listOf(power(8191)), listOf(plus(power(4096), -1))
	for _, x := range []struct {
		what string
		f    func() ([]uint64, api.Errno)
		want int64
		e    api.Errno
	}{
		{"Of(17, 5)", func() ([]uint64, api.Errno) { return modular.Of(small(17), small(5)) }, 2, 0},
		{"Of(17, 1)", func() ([]uint64, api.Errno) { return modular.Of(small(17), small(1)) }, 0, 0},
		{"Of(17, 0)", func() ([]uint64, api.Errno) { return modular.Of(small(17), nil) }, 0, api.ErrZero},
		{"Add(4, 4, 5)", func() ([]uint64, api.Errno) { return modular.Add(small(4), small(4), small(5)) }, 3, 0},
		{"Sub(1, 4, 5)", func() ([]uint64, api.Errno) { return modular.Sub(small(1), small(4), small(5)) }, 2, 0},
		{"Sub(14, 21, 5)", func() ([]uint64, api.Errno) { return modular.Sub(small(14), small(21), small(5)) }, 3, 0},
		{"Mul(4, 4, 5)", func() ([]uint64, api.Errno) { return modular.Mul(small(4), small(4), small(5)) }, 1, 0},
		{"Pow(2, 10, 1000)", func() ([]uint64, api.Errno) { return modular.Pow(small(2), small(10), small(1000)) }, 24, 0},
		{"Pow(0, 0, 7)", func() ([]uint64, api.Errno) { return modular.Pow(nil, nil, small(7)) }, 1, 0},
		{"Pow(5, 0, 1)", func() ([]uint64, api.Errno) { return modular.Pow(small(5), nil, small(1)) }, 0, 0},
		{"Pow(7, 2^8191, 1)", func() ([]uint64, api.Errno) { return modular.Pow(small(7), vast, small(1)) }, 0, 0},
		{"Inverse(3, 7)", func() ([]uint64, api.Errno) { return modular.Inverse(small(3), small(7)) }, 5, 0},
		{"Inverse(10, 7)", func() ([]uint64, api.Errno) { return modular.Inverse(small(10), small(7)) }, 5, 0},
		{"Inverse(2, 4)", func() ([]uint64, api.Errno) { return modular.Inverse(small(2), small(4)) }, 0, api.ErrInverse},
		{"Inverse(0, 1)", func() ([]uint64, api.Errno) { return modular.Inverse(nil, small(1)) }, 0, 0},
		{"Inverse(0, 7)", func() ([]uint64, api.Errno) { return modular.Inverse(nil, small(7)) }, 0, api.ErrInverse},
		{"Of(1, 2^4096)", func() ([]uint64, api.Errno) { return modular.Of(small(1), listOf(power(4096))) }, 0, api.ErrLimit},
		{"Of(1, 2^4096 - 1)", func() ([]uint64, api.Errno) { return modular.Of(small(1), great) }, 1, 0},
		{"Of(2^8192, 5)", func() ([]uint64, api.Errno) { return modular.Of(listOf(power(8192)), small(5)) }, 0, api.ErrLimit},
	} {
		got, e := x.f()
		if e != x.e || !slices.Equal(got, small(x.want)) {
			t.Errorf("%s: %x, error %d, want %d, error %d", x.what, got, e, x.want, x.e)
		}
	}
}

// tooGreat are numbers that don't fit.
func tooGreat() [][]uint64 {
	past := listOf(power(mostBits))
	return [][]uint64{past, padded(past, 3), listOf(plus(power(mostBits), 1)), listOf(plus(power(mostBits+64), -1)), listOf(power(3 * mostBits))}
}

// tooWide are moduli that don't fit. Some of them would as other numbers.
func tooWide() [][]uint64 {
	past := listOf(power(keyBits))
	return append(tooGreat(), past, padded(past, 3), padded(past, 200), listOf(plus(power(keyBits), 1)), listOf(plus(power(keyBits+1), -1)), listOf(plus(power(mostBits), -1)))
}

// noughts are lists that tell 0.
func noughts() [][]uint64 {
	return [][]uint64{nil, {}, {0}, {0, 0, 0}, make([]uint64, api.MaxLimbs), make([]uint64, api.MaxLimbs+1), make([]uint64, 1000)}
}

// P4.1: what does not fit is refused, whatever comes of it, and ahead of all other errors.
func TestPast(t *testing.T) {
	others := append(tooGreat(), nil, []uint64{0, 0}, small(1), small(6), listOf(plus(power(mostBits), -1)))
	for i, m := range slices.Concat(tooWide(), noughts(), [][]uint64{small(1), small(4), listOf(plus(power(keyBits), -1))}) {
		for j, a := range tooGreat() {
			for name, f := range single {
				got, e := f(a, m)
				refused(t, fmt.Sprintf("%s of the %dth number too great, over the %dth modulus", name, j, i), got, e, api.ErrLimit)
			}
			for name, f := range two {
				for _, b := range others {
					got, e := f(a, b, m)
					refused(t, fmt.Sprintf("%s of the %dth number too great and %x, over the %dth modulus", name, j, b, i), got, e, api.ErrLimit)
					got, e = f(b, a, m)
					refused(t, fmt.Sprintf("%s of %x and the %dth number too great, over the %dth modulus", name, b, j, i), got, e, api.ErrLimit)
				}
			}
		}
	}
}

// P4.1: so is a modulus of more bits than its own bound, which is below that of the others.
func TestPastModulus(t *testing.T) {
	for i, m := range tooWide() {
		for _, a := range append(tooGreat(), nil, small(1), small(6), listOf(plus(power(mostBits), -1)), slices.Clone(m)) {
			for name, f := range single {
				got, e := f(a, m)
				refused(t, fmt.Sprintf("%s of %x over the %dth modulus too great", name, a, i), got, e, api.ErrLimit)
			}
			for name, f := range two {
				for _, b := range [][]uint64{nil, a, small(5), listOf(power(mostBits))} {
					got, e := f(a, b, m)
					refused(t, fmt.Sprintf("%s of %x and %x over the %dth modulus too great", name, a, b, i), got, e, api.ErrLimit)
				}
			}
		}
	}
}

// P4.1: behind the limit, and ahead of ErrInverse, it is asked whether the modulus is 0.
func TestZero(t *testing.T) {
	fitting := [][]uint64{nil, {0, 0}, small(1), small(2), listOf(power(keyBits)), listOf(plus(power(mostBits), -1)), padded(small(3), 500)}
	for _, m := range noughts() {
		for _, a := range fitting {
			for name, f := range single {
				got, e := f(a, m)
				refused(t, fmt.Sprintf("%s of %x over 0", name, a), got, e, api.ErrZero)
			}
			for name, f := range two {
				for _, b := range fitting {
					got, e := f(a, b, m)
					refused(t, fmt.Sprintf("%s of %x and %x over 0", name, a, b), got, e, api.ErrZero)
				}
			}
		}
	}
}

// P4.1: modulo 1 all answers are 0, also where nothing is multiplied.
func TestOverOne(t *testing.T) {
	list := [][]uint64{nil, {0}, small(1), small(5), padded(small(1), 4), listOf(power(keyBits)), listOf(plus(power(mostBits), -1))}
	for _, m := range [][]uint64{{1}, {1, 0, 0}, padded(small(1), 300)} {
		for _, a := range list {
			for name, f := range single {
				got, e := f(a, m)
				same(t, fmt.Sprintf("%s of %x over 1", name, a), got, e, new(big.Int))
			}
			for name, f := range two {
				for _, b := range list {
					got, e := f(a, b, m)
					same(t, fmt.Sprintf("%s of %x and %x over 1", name, a, b), got, e, new(big.Int))
				}
			}
		}
	}
}

// P4.1: 0s at a list's end count for nothing, however many, also where the rest just fits.
func TestNoughtsAtTheEnd(t *testing.T) {
	r := rand.New(rand.NewSource(41))
	most := plus(power(mostBits), -1)
	for _, m := range []*big.Int{big.NewInt(7), power(64), plus(power(keyBits), -1), number(r, 700)} {
		for _, a := range []*big.Int{new(big.Int), big.NewInt(5), most, m} {
			for _, n := range []int{1, 1000} {
				given, over := padded(listOf(a), n), padded(listOf(m), n)
				got, e := modular.Of(given, over)
				same(t, "Of", got, e, new(big.Int).Mod(a, m))
				got, e = modular.Inverse(given, over)
				checkInverse(t, a, m, got, e)
				for name, f := range two {
					for _, b := range []*big.Int{new(big.Int), big.NewInt(3), most} {
						got, e := f(given, padded(listOf(b), 1+n/2), over)
						same(t, name, got, e, library[name](a, b, m))
					}
				}
			}
		}
	}
}

// Lists with very many 0s behind them are reckoned with, those that are too great by far refused.
func TestVast(t *testing.T) {
	m := padded(listOf(plus(power(keyBits), -1)), 1<<20)
	n := padded(listOf(power(mostBits-1)), 1<<20)
	// 2^4096 leaves 1, so that only what n leaves over 4096 counts, and that is 0.
	got, e := modular.Pow(padded(small(2), 1<<20), n, m)
	same(t, "Pow of lists with very many 0s", got, e, big.NewInt(1))
	got, e = modular.Inverse(padded(small(2), 1<<20), m)
	same(t, "Inverse of lists with very many 0s", got, e, power(keyBits-1))
	vast := make([]uint64, 1<<20)
	vast[len(vast)-1] = 1
	for name, f := range two {
		got, e := f(vast, vast, vast)
		refused(t, name, got, e, api.ErrLimit)
	}
}

// P4.2 to P4.5: all small numbers, by counting.
func TestSmall(t *testing.T) {
	for m := int64(1); m <= 14; m++ {
		for a := range int64(32) {
			got, e := modular.Of(small(a), small(m))
			same(t, fmt.Sprintf("Of(%d, %d)", a, m), got, e, big.NewInt(a%m))
			smallInverse(t, a, m)
			product := 1 % m
			for b := range int64(32) {
				for name, want := range map[string]int64{"Add": (a + b) % m, "Sub": ((a-b)%m + m) % m, "Mul": a * b % m, "Pow": product} {
					got, e := two[name](small(a), small(b), small(m))
					same(t, fmt.Sprintf("%s(%d, %d, %d)", name, a, b, m), got, e, big.NewInt(want))
				}
				product = product * a % m
			}
		}
	}
}

// smallInverse looks through all numbers below m.
func smallInverse(t *testing.T, a, m int64) {
	t.Helper()
	what := fmt.Sprintf("Inverse(%d, %d)", a, m)
	got, e := modular.Inverse(small(a), small(m))
	for x := range m {
		if a*x%m == 1%m {
			same(t, what, got, e, big.NewInt(x))
			return
		}
	}
	refused(t, what, got, e, api.ErrInverse)
}

// P4.2: against the library.
func TestOf(t *testing.T) {
	r := rand.New(rand.NewSource(42))
	for _, m := range moduli(r, 100) {
		for _, a := range numbers(r, m, 20) {
			got, e := modular.Of(listOf(a), listOf(m))
			same(t, fmt.Sprintf("Of(%x, %x)", a, m), got, e, new(big.Int).Mod(a, m))
		}
	}
}

// P4.3: against the library, also of numbers that are not below m, and of differences below 0.
func TestReckoning(t *testing.T) {
	r := rand.New(rand.NewSource(43))
	for _, m := range moduli(r, 40) {
		list := numbers(r, m, 3)
		for _, a := range list {
			for _, b := range list {
				for _, name := range []string{"Add", "Sub", "Mul"} {
					got, e := two[name](listOf(a), listOf(b), listOf(m))
					same(t, fmt.Sprintf("%s(%x, %x, %x)", name, a, b, m), got, e, library[name](a, b, m))
				}
			}
		}
	}
}

// exponents are exponents at whose bits something begins or ends, and others.
func exponents(r *rand.Rand) []*big.Int {
	list := []*big.Int{new(big.Int), big.NewInt(1), big.NewInt(2), big.NewInt(3), big.NewInt(65537)}
	for _, bits := range []int{63, 64, 65, 128, 200} {
		list = append(list, plus(power(bits), -1), power(bits), plus(power(bits), 1), number(r, bits))
	}
	return list
}

// P4.4: against the library.
func TestPow(t *testing.T) {
	r := rand.New(rand.NewSource(44))
	for _, m := range moduli(r, 10) {
		list := numbers(r, m, 1)
		for _, n := range exponents(r) {
			a := list[r.Intn(len(list))]
			got, e := modular.Pow(listOf(a), listOf(n), listOf(m))
			same(t, fmt.Sprintf("Pow(%x, %x, %x)", a, n, m), got, e, library["Pow"](a, n, m))
		}
		for _, a := range list {
			for _, n := range []*big.Int{new(big.Int), big.NewInt(1), big.NewInt(13)} {
				got, e := modular.Pow(listOf(a), listOf(n), listOf(m))
				same(t, fmt.Sprintf("Pow(%x, %x, %x)", a, n, m), got, e, library["Pow"](a, n, m))
			}
		}
	}
}

// P4.4: exponents of thousands of bits.
func TestPowLong(t *testing.T) {
	r := rand.New(rand.NewSource(45))
	most := plus(power(mostBits), -1)
	for _, x := range []struct{ a, n, m *big.Int }{
		{number(r, keyBits), number(r, mostBits), number(r, keyBits)},
		{most, most, plus(power(keyBits), -1)},
		{plus(power(keyBits), -2), power(mostBits - 1), plus(power(keyBits), -1)},
		{big.NewInt(3), plus(power(mostBits-1), 1), plus(power(2048), 1)},
		{number(r, 3000), number(r, 2000), power(1999)},
		{number(r, 2048), number(r, 2047), number(r, 2048)},
		{number(r, 500), number(r, mostBits), number(r, 1000)},
		{number(r, 64), number(r, mostBits-1), number(r, 64)},
		{number(r, 8000), most, big.NewInt(1)},
		{new(big.Int), most, number(r, keyBits)},
		{big.NewInt(1), most, number(r, keyBits)},
		{power(mostBits / 2), most, power(keyBits - 1)},
	} {
		got, e := modular.Pow(listOf(x.a), listOf(x.n), listOf(x.m))
		same(t, fmt.Sprintf("Pow(%x, %x, %x)", x.a, x.n, x.m), got, e, library["Pow"](x.a, x.n, x.m))
	}
}

// checkInverse holds an answer of Inverse against what the library tells.
func checkInverse(t *testing.T, a, m *big.Int, got []uint64, e api.Errno) {
	t.Helper()
	what := fmt.Sprintf("Inverse(%x, %x)", a, m)
	if divisor := new(big.Int).GCD(nil, nil, a, m); divisor.BitLen() > 1 {
		refused(t, what, got, e, api.ErrInverse)
		return
	}
	// Over 1 the library is not asked: all that is left there is 0.
	want := new(big.Int)
	if m.BitLen() > 1 {
		want.ModInverse(a, m)
	}
	same(t, what, got, e, want)
}

// P4.5: against the library, over all kinds of moduli.
func TestInverse(t *testing.T) {
	r := rand.New(rand.NewSource(46))
	for _, m := range moduli(r, 40) {
		for _, a := range numbers(r, m, 3) {
			got, e := modular.Inverse(listOf(a), listOf(m))
			checkInverse(t, a, m, got, e)
		}
	}
}

// P4.5: numbers that have just so much in common: nothing, 2, a limb, nearly all.
func TestCommonDivisors(t *testing.T) {
	r := rand.New(rand.NewSource(47))
	for _, divisor := range []*big.Int{big.NewInt(1), big.NewInt(2), big.NewInt(3), plus(power(64), -1), power(64), number(r, 2000), number(r, keyBits-1)} {
		for range 20 {
			m := new(big.Int).Mul(divisor, number(r, 1+r.Intn(keyBits+1-divisor.BitLen())))
			a := new(big.Int).Mul(divisor, number(r, 1+r.Intn(mostBits-divisor.BitLen())))
			if m.BitLen() > keyBits {
				continue
			}
			got, e := modular.Inverse(listOf(a), listOf(m))
			checkInverse(t, a, m, got, e)
		}
	}
}

// P4.5: neighbours in the row in which each number is the sum of the two ahead take the longest way down, those around a power of 2 the shortest.
func TestLongWayDown(t *testing.T) {
	a, b := big.NewInt(1), big.NewInt(1)
	for i := 0; b.BitLen() <= keyBits; i++ {
		if i < 100 || b.BitLen() > keyBits-3 {
			got, e := modular.Inverse(listOf(a), listOf(b))
			checkInverse(t, a, b, got, e)
		}
		a, b = b, a.Add(a, b)
	}
	for _, bits := range []int{1, 2, 63, 64, 65, 2048, keyBits - 1} {
		m := power(bits)
		for _, by := range []int64{-3, -2, -1, 0, 1, 2, 3} {
			if x := plus(m, by); x.Sign() > 0 {
				got, e := modular.Inverse(listOf(x), listOf(m))
				checkInverse(t, x, m, got, e)
				got, e = modular.Inverse(listOf(m), listOf(x))
				checkInverse(t, m, x, got, e)
			}
		}
	}
}
