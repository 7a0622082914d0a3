package ratio_test

import (
	"encoding/binary"
	"math"
	"math/big"
	"math/rand"
	"slices"
	"testing"

	"vouch/api"
	"vouch/ratio"
)

const (
	ones     = math.MaxUint64
	mostBits = api.MaxBits
)

// limbsOf is a worth of the library's, as it is told.
func limbsOf(n *big.Int) []uint64 {
	b := n.FillBytes(make([]byte, (n.BitLen()+63)/64*8))
	list := make([]uint64, len(b)/8)
	for i := range list {
		list[i] = binary.BigEndian.Uint64(b[len(b)-8*(i+1):])
	}
	return list
}

// natOf is a number, by the library.
func natOf(a []uint64) *big.Int {
	n := new(big.Int)
	for _, x := range slices.Backward(a) {
		n.Lsh(n, 64).Or(n, new(big.Int).SetUint64(x))
	}
	return n
}

func wholeOf(n *big.Int) api.Whole { return api.Whole{Neg: n.Sign() < 0, Abs: limbsOf(n)} }

// told is the ratio of two parts as they are, in its form or not.
func told(num, den *big.Int) api.Ratio { return api.Ratio{Num: wholeOf(num), Den: limbsOf(den)} }

// of is a ratio of the library's, in its form.
func of(x *big.Rat) api.Ratio { return told(x.Num(), x.Denom()) }

// ratOf is a ratio, by the library.
func ratOf(a api.Ratio) *big.Rat {
	num := natOf(a.Num.Abs)
	if a.Num.Neg {
		num.Neg(num)
	}
	return new(big.Rat).SetFrac(num, natOf(a.Den))
}

// small is num over den, as it is told.
func small(num, den int64) api.Ratio { return told(big.NewInt(num), big.NewInt(den)) }

func rat(num, den *big.Int) *big.Rat { return new(big.Rat).SetFrac(num, den) }

func power(n int) *big.Int { return new(big.Int).Lsh(big.NewInt(1), uint(n)) }

func plus(n *big.Int, by int64) *big.Int { return new(big.Int).Add(n, big.NewInt(by)) }

func minus(n *big.Int) *big.Int { return new(big.Int).Neg(n) }

func times(a, b *big.Int) *big.Int { return new(big.Int).Mul(a, b) }

// most is the greatest part that fits.
func most() *big.Int { return plus(power(mostBits), -1) }

// ten is 10^n.
func ten(n int64) *big.Int { return new(big.Int).Exp(big.NewInt(10), big.NewInt(n), nil) }

// loose is the same ratio in another form: with n 0s behind its parts, and 0 with Neg.
func loose(a api.Ratio, n int) api.Ratio {
	zero := natOf(a.Num.Abs).Sign() == 0
	return api.Ratio{
		Num: api.Whole{Neg: a.Num.Neg || zero && n > 0, Abs: append(slices.Clone(a.Num.Abs), make([]uint64, n)...)},
		Den: append(slices.Clone(a.Den), make([]uint64, n)...),
	}
}

// scaled is the same ratio, both of its parts n times as great, or as many times as there is room for.
func scaled(a api.Ratio, n *big.Int) api.Ratio {
	num, den := natOf(a.Num.Abs), natOf(a.Den)
	room := min(n.BitLen(), mostBits-max(num.BitLen(), den.BitLen()))
	n = new(big.Int).Rsh(n, uint(n.BitLen()-room))
	if n.Sign() == 0 {
		return a
	}
	scaled := told(times(num, n), times(den, n))
	scaled.Num.Neg = a.Num.Neg
	return scaled
}

// forms are ways to tell the same ratio.
func forms(a api.Ratio) []api.Ratio {
	third := scaled(a, big.NewInt(3))
	return []api.Ratio{a, loose(a, 1), third, loose(scaled(a, power(mostBits)), 2)}
}

func same(a, b api.Ratio) bool {
	return a.Num.Neg == b.Num.Neg && slices.Equal(a.Num.Abs, b.Num.Abs) && slices.Equal(a.Den, b.Den)
}

func nothing(a api.Ratio) bool { return !a.Num.Neg && len(a.Num.Abs) == 0 && len(a.Den) == 0 }

// number is a number of exactly so many bits, 0 or above. Some of its limbs are 0 or all ones, since carries go wrong there.
func number(r *rand.Rand, bits int) *big.Int {
	n := new(big.Int)
	kind := r.Intn(4)
	for range (bits + 63) / 64 {
		x := r.Uint64()
		switch {
		case kind == 0 && r.Intn(2) == 0:
			x = 0
		case kind == 1 && r.Intn(2) == 0:
			x = ones
		case kind == 2:
			x = []uint64{0, 1, ones, ones - 1, 1 << 63, 1<<63 - 1}[r.Intn(6)]
		}
		n.Lsh(n, 64).Or(n, new(big.Int).SetUint64(x))
	}
	if bits > 0 {
		n.Mod(n, power(bits-1)).Or(n, power(bits-1))
	}
	return n
}

// random is a ratio of either sign with parts of at most so many bits, of which some have much in common ahead of being reduced.
func random(r *rand.Rand, bits int) *big.Rat {
	num, den := number(r, r.Intn(bits+1)), number(r, 1+r.Intn(bits))
	if r.Intn(3) == 0 {
		den = power(r.Intn(bits))
	}
	if r.Intn(2) == 0 {
		num.Neg(num)
	}
	return rat(num, den)
}

// edges are the ratios at which something begins or ends, of both signs.
func edges() []*big.Rat {
	list := []*big.Rat{new(big.Rat)}
	for _, x := range []*big.Rat{
		big.NewRat(1, 1), big.NewRat(2, 1), big.NewRat(1, 2), big.NewRat(2, 3), big.NewRat(3, 2), big.NewRat(7, 5),
		rat(plus(power(64), -1), power(64)), rat(power(64), plus(power(64), -1)), rat(power(64), big.NewInt(1)), rat(big.NewInt(1), power(63)),
		rat(power(mostBits/2), big.NewInt(3)), rat(big.NewInt(1), power(mostBits/2)),
		rat(power(mostBits-1), big.NewInt(1)), rat(big.NewInt(1), power(mostBits-1)), rat(most(), big.NewInt(1)), rat(big.NewInt(1), most()),
		rat(most(), power(mostBits-1)), rat(power(mostBits-1), most()), rat(most(), plus(most(), -1)), rat(plus(most(), -1), most()),
	} {
		list = append(list, x, new(big.Rat).Neg(x))
	}
	return list
}

// samples are ratios that fit: the edges, and others of all sizes.
func samples(r *rand.Rand, n int) []*big.Rat {
	list := edges()
	for range n {
		list = append(list, random(r, 1+r.Intn(mostBits)), random(r, 1+r.Intn(200)), random(r, 5))
	}
	return list
}

// past are ratios that don't fit as they are told, some of which would in their form, and some of which are none.
func past() []api.Ratio {
	var list []api.Ratio
	one := big.NewInt(1)
	for _, n := range []*big.Int{power(mostBits), plus(power(mostBits), 1), power(mostBits + 64), plus(power(2*mostBits), -1), power(2 * mostBits), power(2*mostBits + 5000)} {
		list = append(list, told(n, one), told(minus(n), big.NewInt(7)), told(one, n), told(n, n), told(minus(n), times(n, big.NewInt(2))), told(new(big.Int), n), told(n, new(big.Int)), loose(told(most(), n), 3))
	}
	return list
}

// nones are ratios that are none.
func nones() []api.Ratio {
	return []api.Ratio{{}, {Num: api.Whole{Neg: true}}, small(1, 0), small(-5, 0), loose(small(1, 0), 3), loose(api.Ratio{}, 500), told(most(), new(big.Int)), told(minus(most()), new(big.Int))}
}

// has: does the form of a ratio of the library's fit?
func has(x *big.Rat) bool {
	return x.Num().BitLen() <= mostBits && x.Denom().BitLen() <= mostBits
}

// right: is an answer the ratio that the library tells, in its form, or ErrLimit and nothing where it does not fit?
func right(got api.Ratio, e api.Errno, want *big.Rat) bool {
	if !has(want) {
		return e == api.ErrLimit && nothing(got)
	}
	return e == api.OK && same(got, of(want))
}

// check holds an answer against a ratio that the library tells.
func check(t *testing.T, what string, got api.Ratio, e api.Errno, want *big.Rat) {
	t.Helper()
	if !right(got, e, want) {
		t.Fatalf("%s: %v, error %d, want %v", what, got, e, want)
	}
}

// refused holds an answer against an error.
func refused(t *testing.T, what string, got api.Ratio, e, want api.Errno) {
	t.Helper()
	if e != want || !nothing(got) {
		t.Fatalf("%s: %v, error %d, want error %d and nothing", what, got, e, want)
	}
}

// two are the calls with two ratios. (Of what is no ratio something is told that is there just if something is answered.)
var two = map[string]func(a, b api.Ratio) (api.Ratio, api.Errno){
	"Add": ratio.Add, "Sub": ratio.Sub, "Mul": ratio.Mul, "Div": ratio.Div, "Pow": ratio.Pow,
	"Cmp": func(a, b api.Ratio) (api.Ratio, api.Errno) {
		k, e := ratio.Cmp(a, b)
		if k == 0 {
			return api.Ratio{}, e
		}
		return small(int64(k), 1), e
	},
}

// single are the calls with one ratio.
var single = map[string]func(a api.Ratio) (api.Ratio, api.Errno){
	"Neg": ratio.Neg,
	"Text": func(a api.Ratio) (api.Ratio, api.Errno) {
		s, e := ratio.Text(a)
		return api.Ratio{Num: api.Whole{Neg: s != ""}}, e
	},
}
