package nat_test

import (
	"encoding/binary"
	"fmt"
	"math"
	"math/big"
	"math/rand"
	"slices"
	"strings"
	"testing"

	"vouch/api"
	"vouch/nat"
)

const (
	ones     = math.MaxUint64
	limbs    = api.MaxLimbs
	mostBits = 64 * limbs
)

// bigOf is the number of a list, by the library.
func bigOf(a []uint64) *big.Int {
	b := make([]byte, 8*len(a))
	for i, x := range a {
		binary.BigEndian.PutUint64(b[8*(len(a)-1-i):], x)
	}
	return new(big.Int).SetBytes(b)
}

// listOf is the list of a number, in its form, by the library.
func listOf(n *big.Int) []uint64 {
	a := make([]uint64, (n.BitLen()+63)/64)
	b := n.FillBytes(make([]byte, 8*len(a)))
	for i := range a {
		a[i] = binary.BigEndian.Uint64(b[8*(len(a)-1-i):])
	}
	return a
}

func power(n int) *big.Int { return new(big.Int).Lsh(big.NewInt(1), uint(n)) }

func less(n *big.Int, by int64) *big.Int { return new(big.Int).Sub(n, big.NewInt(by)) }

// filled is a list of n limbs x.
func filled(n int, x uint64) []uint64 {
	return slices.Repeat([]uint64{x}, n)
}

// padded is a list with n 0s behind it.
func padded(a []uint64, n int) []uint64 {
	return append(slices.Clone(a), make([]uint64, n)...)
}

// above is a list of n limbs that does not fit: the last one is 1.
func above(n int) []uint64 {
	a := make([]uint64, n)
	a[n-1] = 1
	return a
}

// random is a list of exactly n limbs whose last one is not 0. Some of its limbs are 0 or all ones, since carries go wrong there.
func random(r *rand.Rand, n int) []uint64 {
	a := make([]uint64, n)
	kind := r.Intn(4)
	for i := range a {
		a[i] = r.Uint64()
		switch {
		case kind == 0 && r.Intn(2) == 0:
			a[i] = 0
		case kind == 1 && r.Intn(2) == 0:
			a[i] = ones
		case kind == 2:
			a[i] = []uint64{0, 1, ones, ones - 1, 1 << 63, 1<<63 - 1}[r.Intn(6)]
		}
	}
	if n > 0 && a[n-1] == 0 {
		a[n-1] = 1 + r.Uint64()>>r.Intn(64)
		a[n-1] = max(a[n-1], 1)
	}
	return a
}

// samples are numbers of all sizes up to the limit.
func samples(r *rand.Rand, n int) [][]uint64 {
	list := [][]uint64{nil, {1}, {2}, {ones}, {0, 1}, {1, 1}, {ones, ones}, filled(limbs, ones), above(limbs)}
	for range n {
		list = append(list, random(r, r.Intn(limbs+1)))
		list = append(list, random(r, r.Intn(5)))
	}
	return list
}

// same holds an answer against a number that the library tells: in its form, or ErrLimit and nothing where it does not fit.
func same(t *testing.T, what string, got []uint64, e api.Errno, want *big.Int) {
	t.Helper()
	if want.BitLen() > mostBits {
		if e != api.ErrLimit || len(got) > 0 {
			t.Fatalf("%s: %d limbs, error %d, want ErrLimit", what, len(got), e)
		}
		return
	}
	if e != api.OK || !slices.Equal(got, listOf(want)) {
		t.Fatalf("%s: %x, error %d, want %x", what, got, e, listOf(want))
	}
}

// refused holds an answer against an error.
func refused(t *testing.T, what string, got []uint64, e, want api.Errno) {
	t.Helper()
	if e != want || len(got) > 0 {
		t.Errorf("%s: %x, error %d, want error %d and nothing", what, got, e, want)
	}
}

// two are the calls with two numbers and one answer.
var two = map[string]func(a, b []uint64) ([]uint64, api.Errno){
	"Add": nat.Add,
	"Sub": nat.Sub,
	"Mul": nat.Mul,
	"Div": func(a, b []uint64) ([]uint64, api.Errno) {
		q, r, e := nat.Div(a, b)
		if e != api.OK && len(r) > 0 {
			return r, e
		}
		return q, e
	},
	"Rem": func(a, b []uint64) ([]uint64, api.Errno) {
		_, r, e := nat.Div(a, b)
		return r, e
	},
	"Gcd": nat.Gcd,
}

// wide are the calls with one number.
var wide = map[string]func(a []uint64) ([]uint64, api.Errno){
	"Norm":          nat.Norm,
	"Shift by 0":    func(a []uint64) ([]uint64, api.Errno) { return nat.Shift(a, 0) },
	"Shift by 1":    func(a []uint64) ([]uint64, api.Errno) { return nat.Shift(a, 1) },
	"Shift by -1":   func(a []uint64) ([]uint64, api.Errno) { return nat.Shift(a, -1) },
	"Shift by -64":  func(a []uint64) ([]uint64, api.Errno) { return nat.Shift(a, -64) },
	"Shift by most": func(a []uint64) ([]uint64, api.Errno) { return nat.Shift(a, math.MaxInt) },
	"Shift by least": func(a []uint64) ([]uint64, api.Errno) {
		return nat.Shift(a, math.MinInt)
	},
	"Text": func(a []uint64) ([]uint64, api.Errno) {
		s, e := nat.Text(a)
		return make([]uint64, len(s)), e
	},
	"Bytes": func(a []uint64) ([]uint64, api.Errno) {
		b, e := nat.Bytes(a)
		return make([]uint64, len(b)), e
	},
}

// P1.1: what is handed in must fit, and that is asked first.
func TestTooWide(t *testing.T) {
	for _, n := range []int{limbs + 1, limbs + 2, 2 * limbs, 1000} {
		for _, big := range [][]uint64{above(n), filled(n, ones), padded(above(n), 3)} {
			for name, f := range wide {
				got, e := f(big)
				refused(t, name, got, e, api.ErrLimit)
			}
			// 0 for the other one: ErrZero and ErrBelow come behind ErrLimit.
			for name, f := range two {
				for _, other := range [][]uint64{nil, {0}, {1}, filled(limbs, ones), big} {
					got, e := f(big, other)
					refused(t, name+" of a wide one", got, e, api.ErrLimit)
					got, e = f(other, big)
					refused(t, name+" with a wide one", got, e, api.ErrLimit)
				}
			}
		}
	}
}

// P1.1: 0s at the end count for nothing, however many; the greatest number that fits is taken.
func TestJustFits(t *testing.T) {
	most := filled(limbs, ones)
	for _, n := range []int{0, 1, 2, 1000, 100000} {
		got, e := nat.Norm(padded(most, n))
		same(t, "Norm", got, e, bigOf(most))
		for name, f := range two {
			want, wantE := f(most, []uint64{1})
			got, e := f(padded(most, n), padded([]uint64{1}, n))
			if e != wantE || !slices.Equal(got, want) {
				t.Errorf("%s with %d 0s behind: %x, error %d, want %x, error %d", name, n, got, e, want, wantE)
			}
		}
		for name, f := range wide {
			want, wantE := f(most)
			if got, e := f(padded(most, n)); e != wantE || !slices.Equal(got, want) {
				t.Errorf("%s with %d 0s behind: %x, error %d, want %x, error %d", name, n, got, e, want, wantE)
			}
		}
		for name, f := range two {
			want, wantE := f([]uint64{6}, nil)
			if got, e := f(padded([]uint64{6}, n), make([]uint64, n)); e != wantE || !slices.Equal(got, want) {
				t.Errorf("%s with 0 of %d limbs: %x, error %d, want %x, error %d", name, n, got, e, want, wantE)
			}
		}
	}
}

// P1.2
func TestNorm(t *testing.T) {
	for _, x := range []struct{ a, want []uint64 }{
		{nil, nil}, {[]uint64{}, nil}, {[]uint64{0}, nil}, {make([]uint64, 5000), nil},
		{[]uint64{5, 0, 0}, []uint64{5}}, {[]uint64{0, 5, 0}, []uint64{0, 5}}, {[]uint64{0, 0, 1}, []uint64{0, 0, 1}},
		{padded(above(limbs), 1), above(limbs)}, {padded(filled(limbs, ones), 9), filled(limbs, ones)},
	} {
		if got, e := nat.Norm(x.a); e != api.OK || !slices.Equal(got, x.want) {
			t.Errorf("Norm(%v): %v, error %d", x.a, got, e)
		}
	}
	got, e := nat.Norm(above(limbs + 1))
	refused(t, "Norm of 129 limbs", got, e, api.ErrLimit)
}

// P1.3
func TestAddSub(t *testing.T) {
	r := rand.New(rand.NewSource(1))
	list := samples(r, 60)
	for _, a := range list {
		for _, b := range list {
			got, e := nat.Add(a, b)
			same(t, "Add", got, e, new(big.Int).Add(bigOf(a), bigOf(b)))
			got, e = nat.Sub(a, b)
			want := new(big.Int).Sub(bigOf(a), bigOf(b))
			if want.Sign() < 0 {
				refused(t, "Sub", got, e, api.ErrBelow)
			} else {
				same(t, "Sub", got, e, want)
			}
		}
	}
}

// P1.3: sums and differences about the limit, and carries through all limbs.
func TestAddSubEdges(t *testing.T) {
	most := filled(limbs, ones)
	half := listOf(power(mostBits - 1))
	got, e := nat.Add(most, nil)
	same(t, "most + 0", got, e, bigOf(most))
	got, e = nat.Add(most, []uint64{1})
	refused(t, "most + 1", got, e, api.ErrLimit)
	got, e = nat.Add([]uint64{1}, most)
	refused(t, "1 + most", got, e, api.ErrLimit)
	got, e = nat.Add(half, half)
	refused(t, "half + half", got, e, api.ErrLimit)
	got, e = nat.Add(half, listOf(less(bigOf(half), 1)))
	same(t, "half + half less 1", got, e, bigOf(most))
	for n := 1; n < limbs; n++ {
		got, e = nat.Add(filled(n, ones), []uint64{1})
		same(t, "carry", got, e, power(64*n))
		got, e = nat.Sub(listOf(power(64*n)), []uint64{1})
		same(t, "borrow", got, e, less(power(64*n), 1))
		got, e = nat.Sub(filled(n, ones), above(n+1))
		refused(t, "just below", got, e, api.ErrBelow)
	}
	got, e = nat.Sub(most, most)
	same(t, "most - most", got, e, new(big.Int))
	got, e = nat.Sub(nil, nil)
	same(t, "0 - 0", got, e, new(big.Int))
	got, e = nat.Sub(nil, []uint64{1})
	refused(t, "0 - 1", got, e, api.ErrBelow)
	got, e = nat.Sub([]uint64{1}, []uint64{2})
	refused(t, "1 - 2", got, e, api.ErrBelow)
}

// P1.3: products of all sizes that there are, of limbs that are hard for a transform.
func TestMulSizes(t *testing.T) {
	r := rand.New(rand.NewSource(2))
	kinds := []func(n int) []uint64{
		func(n int) []uint64 { return filled(n, ones) },
		func(n int) []uint64 { return random(r, n) },
		func(n int) []uint64 { return filled(n, 0xffff0000ffff0000) },
	}
	for n := 0; n <= limbs; n++ {
		for m := 0; m <= limbs+1-n && m <= limbs; m++ {
			a, b := kinds[r.Intn(len(kinds))](n), kinds[r.Intn(len(kinds))](m)
			got, e := nat.Mul(a, b)
			same(t, fmt.Sprintf("Mul of %d and %d limbs", n, m), got, e, new(big.Int).Mul(bigOf(a), bigOf(b)))
		}
		a, b := filled(n, ones), filled(limbs-n, ones)
		got, e := nat.Mul(a, b)
		same(t, fmt.Sprintf("Mul of ones, %d limbs", n), got, e, new(big.Int).Mul(bigOf(a), bigOf(b)))
	}
}

// P1.3: products whose bits are about the limit.
func TestMulEdges(t *testing.T) {
	for n := 1; n <= mostBits; n += 1 + n%61 {
		for d := -2; d <= 2; d++ {
			m := mostBits - n + d
			if m < 0 || m >= mostBits || n >= mostBits {
				continue
			}
			for _, a := range []*big.Int{power(n), less(power(n), 1), less(power(n), -1)} {
				for _, b := range []*big.Int{power(m), less(power(m), 1), less(power(m), -1)} {
					got, e := nat.Mul(listOf(a), listOf(b))
					same(t, fmt.Sprintf("Mul about 2^%d and 2^%d", n, m), got, e, new(big.Int).Mul(a, b))
				}
			}
		}
	}
	// (2^4096 + 1) (2^4096 - 1) is the greatest number that fits.
	got, e := nat.Mul(listOf(less(power(4096), -1)), listOf(less(power(4096), 1)))
	same(t, "the greatest product", got, e, bigOf(filled(limbs, ones)))
	most := filled(limbs, ones)
	got, e = nat.Mul(most, []uint64{1})
	same(t, "most times 1", got, e, bigOf(most))
	got, e = nat.Mul(most, []uint64{2})
	refused(t, "most times 2", got, e, api.ErrLimit)
	got, e = nat.Mul(most, most)
	refused(t, "most times most", got, e, api.ErrLimit)
	got, e = nat.Mul(most, nil)
	same(t, "most times 0", got, e, new(big.Int))
	got, e = nat.Mul(make([]uint64, 7), most)
	same(t, "0 times most", got, e, new(big.Int))
}

// P1.3: large factors whose digits together are about a power of 2, since a transform has so many places.
func TestMulPlaces(t *testing.T) {
	r := rand.New(rand.NewSource(17))
	for sum := 4096; sum <= mostBits; sum *= 2 {
		for d := -48; d <= 48; d++ {
			for n := 1985; n < sum-1985 && n < sum/2+400; n += 16 {
				if r.Intn(1+sum/2048) > 1 {
					continue
				}
				a, b := less(power(n), 1), less(power(sum-n+d), 1)
				got, e := nat.Mul(listOf(a), listOf(b))
				same(t, fmt.Sprintf("Mul of %d bits and %d bits", n, sum-n+d), got, e, new(big.Int).Mul(a, b))
			}
		}
	}
}

// P1.4
func checkDiv(t *testing.T, a, b []uint64) {
	t.Helper()
	q, r, e := nat.Div(a, b)
	x, y := bigOf(a), bigOf(b)
	if y.Sign() == 0 {
		if e != api.ErrZero || len(q) > 0 || len(r) > 0 {
			t.Fatalf("Div by 0: %x, %x, error %d", q, r, e)
		}
		return
	}
	same(t, "Div, how often", q, e, new(big.Int).Div(x, y))
	same(t, "Div, what is left", r, e, new(big.Int).Mod(x, y))
}

func TestDiv(t *testing.T) {
	r := rand.New(rand.NewSource(3))
	list := samples(r, 60)
	for _, a := range list {
		checkDiv(t, a, make([]uint64, 3))
		for _, b := range list {
			checkDiv(t, a, b)
		}
	}
	checkDiv(t, []uint64{5}, []uint64{7})
	checkDiv(t, []uint64{7}, []uint64{7})
	checkDiv(t, nil, []uint64{7})
	checkDiv(t, nil, nil)
	checkDiv(t, filled(limbs, ones), filled(limbs, ones))
	checkDiv(t, listOf(less(power(mostBits), 2)), filled(limbs, ones))
	a, _ := new(big.Int).SetString("100000000000000000000", 10)
	checkDiv(t, listOf(a), []uint64{10000000001})
}

// P1.4: products and their neighbours over their factors: there a guess of the quotient's limbs is too great most often.
func TestDivNearProducts(t *testing.T) {
	r := rand.New(rand.NewSource(4))
	for range 4000 {
		b := random(r, 1+r.Intn(5))
		q := random(r, 1+r.Intn(5))
		p := new(big.Int).Mul(bigOf(b), bigOf(q))
		for _, n := range []*big.Int{p, less(p, 1), less(p, -1), less(new(big.Int).Add(p, bigOf(b)), 1)} {
			checkDiv(t, listOf(n), b)
		}
	}
	for _, top := range []uint64{1, 2, 1 << 62, 1 << 63, 1<<63 + 1, ones} {
		for _, low := range []uint64{0, 1, 1 << 63, ones} {
			b := []uint64{low, low, top}
			checkDiv(t, []uint64{ones, ones, ones, top - 1}, b)
			checkDiv(t, []uint64{0, 0, 0, top}, b)
			checkDiv(t, []uint64{0, 0, 0, 0, top}, b)
			checkDiv(t, []uint64{low, low, low, top, top}, b)
			checkDiv(t, []uint64{ones, low - 1, low, top}, []uint64{low, top})
		}
	}
	// Dividends that begin as their divisors do, and whose next limb is less.
	checkDiv(t, []uint64{0, 0, 1 << 63, 1<<63 - 1}, []uint64{1, 0, 1 << 63})
	checkDiv(t, []uint64{3, 0, 1 << 63}, []uint64{1, 0, 1 << 61})
	checkDiv(t, []uint64{0, ones - 1, 1 << 63}, []uint64{ones, 1 << 63})
}

// P1.4
func TestGcd(t *testing.T) {
	r := rand.New(rand.NewSource(5))
	check := func(a, b []uint64) {
		t.Helper()
		got, e := nat.Gcd(a, b)
		same(t, fmt.Sprintf("Gcd(%x, %x)", a, b), got, e, new(big.Int).GCD(nil, nil, bigOf(a), bigOf(b)))
	}
	list := samples(r, 20)
	for _, a := range list {
		for _, b := range list {
			check(a, b)
		}
	}
	for a := range uint64(40) {
		for b := range uint64(40) {
			check([]uint64{a}, []uint64{b})
		}
	}
	for range 200 {
		g, a, b := random(r, 1+r.Intn(40)), random(r, 1+r.Intn(40)), random(r, 1+r.Intn(40))
		x, y := new(big.Int).Mul(bigOf(g), bigOf(a)), new(big.Int).Mul(bigOf(g), bigOf(b))
		check(listOf(x), listOf(y))
		check(listOf(x.Lsh(x, uint(r.Intn(200)))), listOf(y.Lsh(y, uint(r.Intn(200)))))
	}
	// Numbers of Fibonacci's row take the most rounds.
	a, b := big.NewInt(1), big.NewInt(1)
	for new(big.Int).Add(a, b).BitLen() <= mostBits {
		a, b = b, new(big.Int).Add(a, b)
	}
	check(listOf(a), listOf(b))
	check(listOf(power(mostBits-1)), listOf(power(70)))
	check(listOf(power(mostBits-1)), filled(limbs, ones))
}

// P1.5
func TestShift(t *testing.T) {
	r := rand.New(rand.NewSource(6))
	moves := []int{0, 1, 2, 63, 64, 65, 127, 128, 129, 4095, 4096, 8127, 8128, 8129, 8190, 8191, 8192, 8193, 8255, 8256, 100000, math.MaxInt32, math.MaxInt32 + 1, 1 << 62, math.MaxInt - 1, math.MaxInt}
	for _, a := range samples(r, 40) {
		for _, n := range append(moves, r.Intn(9000), r.Intn(9000), r.Intn(200)) {
			got, e := nat.Shift(a, n)
			if len(a) == 0 {
				same(t, "Shift of 0", got, e, new(big.Int))
			} else if bigOf(a).BitLen()+min(n, 100000) > mostBits {
				refused(t, fmt.Sprintf("Shift by %d", n), got, e, api.ErrLimit)
			} else {
				same(t, fmt.Sprintf("Shift by %d", n), got, e, new(big.Int).Lsh(bigOf(a), uint(n)))
			}
			got, e = nat.Shift(a, -n)
			same(t, fmt.Sprintf("Shift by -%d", n), got, e, new(big.Int).Rsh(bigOf(a), uint(min(n, 100000))))
		}
		got, e := nat.Shift(a, math.MinInt)
		same(t, "Shift by the least int", got, e, new(big.Int))
		got, e = nat.Shift(a, math.MinInt+1)
		same(t, "Shift by the least int but one", got, e, new(big.Int))
	}
}

// P1.5: the last shift that fits, and the first that does not, of numbers of all sizes.
func TestShiftEdges(t *testing.T) {
	for n := 1; n <= mostBits; n++ {
		a := listOf(less(power(n), 1))
		got, e := nat.Shift(a, mostBits-n)
		same(t, "the last shift that fits", got, e, new(big.Int).Lsh(bigOf(a), uint(mostBits-n)))
		got, e = nat.Shift(a, mostBits-n+1)
		refused(t, "the first shift that does not", got, e, api.ErrLimit)
		got, e = nat.Shift(a, 1-n)
		same(t, "the last shift that leaves something", got, e, big.NewInt(1))
		got, e = nat.Shift(a, -n)
		same(t, "the first shift that leaves nothing", got, e, new(big.Int))
	}
}

// P1.6
func TestCmp(t *testing.T) {
	r := rand.New(rand.NewSource(7))
	list := append(samples(r, 30), above(limbs+1), filled(limbs+1, ones), above(1000), filled(1000, 7))
	for _, a := range list {
		for _, b := range list {
			want := bigOf(a).Cmp(bigOf(b))
			for _, n := range []int{0, 1, 300} {
				if got := nat.Cmp(padded(a, n), b); got != want {
					t.Fatalf("Cmp(%x, %x) with %d 0s: %d", a, b, n, got)
				}
				if got := nat.Cmp(a, padded(b, n)); got != want {
					t.Fatalf("Cmp(%x, %x) with %d 0s behind the second: %d", a, b, n, got)
				}
			}
		}
		// Numbers that differ in one limb only.
		for i := range a {
			b := slices.Clone(a)
			b[i] ^= 1 << r.Intn(64)
			if got, want := nat.Cmp(a, b), bigOf(a).Cmp(bigOf(b)); got != want {
				t.Fatalf("Cmp(%x, %x): %d", a, b, got)
			}
		}
	}
	if nat.Cmp(nil, nil) != 0 || nat.Cmp(nil, make([]uint64, 9)) != 0 || nat.Cmp([]uint64{1, 0}, []uint64{1}) != 0 {
		t.Error("Cmp of the same numbers")
	}
	if nat.Cmp([]uint64{1 << 63}, []uint64{1}) != 1 || nat.Cmp([]uint64{1}, []uint64{1 << 63}) != -1 {
		t.Error("Cmp of a limb's highest bit")
	}
}

// P1.6
func TestBits(t *testing.T) {
	r := rand.New(rand.NewSource(8))
	for _, a := range append(samples(r, 60), above(limbs+1), above(1000), filled(5000, ones)) {
		for _, n := range []int{0, 1, 500} {
			if got := nat.Bits(padded(a, n)); got != bigOf(a).BitLen() {
				t.Fatalf("Bits(%x) with %d 0s: %d", a, n, got)
			}
		}
	}
	for n := range 600 {
		if got := nat.Bits(listOf(power(n))); got != n+1 {
			t.Errorf("Bits(2^%d): %d", n, got)
		}
		if got := nat.Bits(listOf(less(power(n), 1))); got != n {
			t.Errorf("Bits(2^%d - 1): %d", n, got)
		}
	}
	if nat.Bits(nil) != 0 || nat.Bits([]uint64{255}) != 8 || nat.Bits(above(129)) != 8193 {
		t.Error("Bits of the chapter's examples")
	}
}

// P1.7
func TestText(t *testing.T) {
	r := rand.New(rand.NewSource(9))
	list := samples(r, 100)
	for n := range 2466 {
		ten := new(big.Int).Exp(big.NewInt(10), big.NewInt(int64(n)), nil)
		list = append(list, listOf(ten), listOf(less(ten, 1)), listOf(less(ten, -1)))
	}
	for _, a := range list {
		want := bigOf(a).String()
		if got, e := nat.Text(padded(a, r.Intn(3))); e != api.OK || got != want {
			t.Fatalf("Text(%x): %s, error %d, want %s", a, got, e, want)
		}
		got, e := nat.Parse(want)
		same(t, "Parse of "+want, got, e, bigOf(a))
		got, e = nat.Parse(strings.Repeat("0", r.Intn(60)) + want)
		same(t, "Parse of noughts and "+want, got, e, bigOf(a))
	}
	for _, a := range [][]uint64{above(limbs + 1), filled(1000, ones)} {
		if s, e := nat.Text(a); e != api.ErrLimit || s != "" {
			t.Errorf("Text of %d limbs: %s, error %d", len(a), s, e)
		}
	}
}

// P1.7: texts that are refused, in the order of the errors.
func TestParseRefused(t *testing.T) {
	noughts := strings.Repeat("0", api.MaxDigits)
	most := less(power(mostBits), 1).String()
	for what, x := range map[string]struct {
		s string
		e api.Errno
	}{
		"nothing":                    {"", api.ErrDigit},
		"a sign":                     {"-1", api.ErrDigit},
		"a plus":                     {"+1", api.ErrDigit},
		"a sign alone":               {"-", api.ErrDigit},
		"a blank behind":             {"1 ", api.ErrDigit},
		"a blank ahead":              {" 1", api.ErrDigit},
		"a line's end":               {"1\n", api.ErrDigit},
		"a byte 0":                   {"1\x00", api.ErrDigit},
		"hex":                        {"0x1", api.ErrDigit},
		"an underscore":              {"1_0", api.ErrDigit},
		"a dot":                      {"1.0", api.ErrDigit},
		"a power":                    {"1e3", api.ErrDigit},
		"a letter":                   {"x", api.ErrDigit},
		"a digit of another script":  {"\u0663", api.ErrDigit},
		"a wide digit":               {"\uff11", api.ErrDigit},
		"bytes that are no text":     {"\xff\xfe", api.ErrDigit},
		"one past":                   {power(mostBits).String(), api.ErrLimit},
		"one past, noughts ahead":    {strings.Repeat("0", 100) + power(mostBits).String(), api.ErrLimit},
		"2467 nines":                 {strings.Repeat("9", 2467), api.ErrLimit},
		"10^2467":                    {"1" + strings.Repeat("0", 2467), api.ErrLimit},
		"as many nines as may be":    {strings.Repeat("9", api.MaxDigits), api.ErrLimit},
		"a wrong end of a great one": {strings.Repeat("9", 3000) + "x", api.ErrDigit},
		"a wrong beginning of it":    {"x" + strings.Repeat("9", 3000), api.ErrDigit},
		"a wrong end, just in":       {noughts[1:] + "x", api.ErrDigit},
		"too long":                   {noughts + "0", api.ErrLimit},
		"too long and no digit":      {noughts + "x", api.ErrLimit},
		"too long, no digit at all":  {strings.Repeat("x", api.MaxDigits+1), api.ErrLimit},
		"much too long":              {strings.Repeat("-", 10*api.MaxDigits), api.ErrLimit},
	} {
		got, e := nat.Parse(x.s)
		refused(t, what, got, e, x.e)
	}
	for what, x := range map[string]struct {
		s    string
		want *big.Int
	}{
		"noughts as many as may be": {noughts, new(big.Int)},
		"noughts and a digit":       {noughts[1:] + "7", big.NewInt(7)},
		"noughts and the greatest":  {noughts[len(most):] + most, bigOf(filled(limbs, ones))},
		"a nought":                  {"0", new(big.Int)},
		"noughts":                   {"000", new(big.Int)},
		"noughts ahead":             {"007", big.NewInt(7)},
	} {
		got, e := nat.Parse(x.s)
		same(t, what, got, e, x.want)
	}
	for c := range 256 {
		for _, s := range []string{string([]byte{byte(c)}), string([]byte{'1', byte(c)}), string([]byte{byte(c), '1'})} {
			_, e := nat.Parse(s)
			if digit := c >= '0' && c <= '9'; digit != (e == api.OK) || !digit && e != api.ErrDigit {
				t.Errorf("Parse(%q): error %d", s, e)
			}
		}
	}
}

// P1.8
func TestBytes(t *testing.T) {
	r := rand.New(rand.NewSource(10))
	list := samples(r, 100)
	for n := range mostBits {
		list = append(list, listOf(power(n)))
	}
	for _, a := range list {
		want := bigOf(a).Bytes()
		if got, e := nat.Bytes(padded(a, r.Intn(3))); e != api.OK || !slices.Equal(got, want) {
			t.Fatalf("Bytes(%x): %x, error %d", a, got, e)
		}
		got, e := nat.From(append(make([]byte, r.Intn(20)), want...))
		same(t, "From", got, e, bigOf(a))
	}
	for _, a := range [][]uint64{above(limbs + 1), filled(1000, ones)} {
		if b, e := nat.Bytes(a); e != api.ErrLimit || len(b) > 0 {
			t.Errorf("Bytes of %d limbs: %x, error %d", len(a), b, e)
		}
	}
}

// P1.8: bytes 0 ahead count for nothing, however many; 1024 bytes fit, 1025 don't.
func TestFromEdges(t *testing.T) {
	full := slices.Repeat([]byte{0xff}, 8*limbs)
	for _, n := range []int{0, 1, 7, 8, 100000} {
		noughts := make([]byte, n)
		got, e := nat.From(noughts)
		same(t, "From of bytes 0", got, e, new(big.Int))
		got, e = nat.From(append(noughts, full...))
		same(t, "From of 1024 bytes", got, e, bigOf(filled(limbs, ones)))
		got, e = nat.From(append(append(noughts, 1), full...))
		refused(t, "From of 1025 bytes", got, e, api.ErrLimit)
	}
	got, e := nat.From([]byte{0, 1, 2})
	same(t, "From(00 01 02)", got, e, big.NewInt(258))
	got, e = nat.From(nil)
	same(t, "From of none", got, e, new(big.Int))
}
