package whole_test

import (
	"encoding/binary"
	"fmt"
	"math"
	"math/big"
	"math/rand"
	"slices"
	"strings"
	"testing"

	"vouch/api"
	"vouch/whole"
)

const (
	ones     = math.MaxUint64
	limbs    = api.MaxBits / 64
	mostBits = api.MaxBits
)

// bigOf is a number, by the library.
func bigOf(a api.Whole) *big.Int {
	n := new(big.Int)
	for _, x := range slices.Backward(a.Abs) {
		n.Lsh(n, 64).Or(n, new(big.Int).SetUint64(x))
	}
	if a.Neg {
		n.Neg(n)
	}
	return n
}

// of is the number of the library's, in its form.
func of(n *big.Int) api.Whole {
	b := n.FillBytes(make([]byte, (n.BitLen()+63)/64*8))
	a := api.Whole{Neg: n.Sign() < 0, Abs: make([]uint64, len(b)/8)}
	for i := range a.Abs {
		a.Abs[i] = binary.BigEndian.Uint64(b[len(b)-8*(i+1):])
	}
	return a
}

func power(n int) *big.Int { return new(big.Int).Lsh(big.NewInt(1), uint(n)) }

func plus(n *big.Int, by int64) *big.Int { return new(big.Int).Add(n, big.NewInt(by)) }

func minus(n *big.Int) *big.Int { return new(big.Int).Neg(n) }

// ten is 10^n.
func ten(n int64) *big.Int { return new(big.Int).Exp(big.NewInt(10), big.NewInt(n), nil) }

// small is the number n.
func small(n int64) api.Whole { return of(big.NewInt(n)) }

// loose is the same number in another form: with n 0s behind its worth, and 0 with Neg.
func loose(a api.Whole, n int) api.Whole {
	a.Abs = append(slices.Clone(a.Abs), make([]uint64, n)...)
	a.Neg = a.Neg || bigOf(a).Sign() == 0 && n > 0
	return a
}

func same(a, b api.Whole) bool {
	return a.Neg == b.Neg && slices.Equal(a.Abs, b.Abs)
}

func nothing(a api.Whole) bool { return !a.Neg && len(a.Abs) == 0 }

// random is a number of exactly so many bits, of either sign. Some of its limbs are 0 or all ones, since carries go wrong there.
func random(r *rand.Rand, bits int) *big.Int {
	n := new(big.Int)
	kind := r.Intn(4)
	for range (bits + 63) / 64 {
		x := r.Uint64()
		switch {
		case kind == 0 && r.Intn(2) == 0:
			x = 0
		case kind == 1 && r.Intn(2) == 0:
			x = ones
		case kind == 2:
			x = []uint64{0, 1, ones, ones - 1, 1 << 63, 1<<63 - 1}[r.Intn(6)]
		}
		n.Lsh(n, 64).Or(n, new(big.Int).SetUint64(x))
	}
	if bits > 0 {
		n.Mod(n, power(bits-1)).Or(n, power(bits-1))
	}
	if r.Intn(2) == 0 {
		n.Neg(n)
	}
	return n
}

// edges are the numbers at which something begins or ends, of both signs.
func edges() []*big.Int {
	list := []*big.Int{new(big.Int)}
	for _, n := range []*big.Int{
		big.NewInt(1), big.NewInt(2), big.NewInt(3), big.NewInt(7), plus(power(63), -1), power(63), plus(power(63), 1), plus(power(64), -1), power(64), plus(power(64), 1),
		plus(power(128), -1), power(128), plus(power(mostBits/2), -1), power(mostBits / 2), plus(power(mostBits-1), -1), power(mostBits - 1), plus(power(mostBits-1), 1), plus(power(mostBits), -2), plus(power(mostBits), -1),
	} {
		list = append(list, n, minus(n))
	}
	return list
}

// samples are numbers that fit: the edges, and others of all sizes.
func samples(r *rand.Rand, n int) []*big.Int {
	list := edges()
	for range n {
		list = append(list, random(r, r.Intn(mostBits+1)), random(r, r.Intn(200)))
	}
	return list
}

// past are numbers of either sign that don't fit: such as layer 1 takes, and such as it does not.
func past() []api.Whole {
	var list []api.Whole
	for _, n := range []*big.Int{power(mostBits), plus(power(mostBits), 1), power(mostBits + 64), plus(power(2*mostBits), -1), power(2 * mostBits), power(2*mostBits + 9000)} {
		list = append(list, of(n), of(minus(n)), loose(of(n), 3))
	}
	return list
}

// right: is an answer the number that the library tells, in its form, or ErrLimit and nothing where it does not fit?
func right(got api.Whole, e api.Errno, want *big.Int) bool {
	if want.BitLen() > mostBits {
		return e == api.ErrLimit && nothing(got)
	}
	return e == api.OK && same(got, of(want))
}

// check holds an answer against a number that the library tells.
func check(t *testing.T, what string, got api.Whole, e api.Errno, want *big.Int) {
	t.Helper()
	if !right(got, e, want) {
		t.Fatalf("%s: %v, error %d, want %v", what, got, e, want)
	}
}

// refused holds an answer against an error.
func refused(t *testing.T, what string, got api.Whole, e, want api.Errno) {
	t.Helper()
	if e != want || !nothing(got) {
		t.Fatalf("%s: %v, error %d, want error %d and nothing", what, got, e, want)
	}
}

// two are the calls with two numbers.
var two = map[string]func(a, b api.Whole) (api.Whole, api.Errno){
	"Add": whole.Add, "Sub": whole.Sub, "Mul": whole.Mul, "Quo": whole.Quo, "Rem": whole.Rem, "Pow": whole.Pow,
}

// one are the calls with one number that may be ErrLimit.
var one = map[string]func(a api.Whole) (api.Whole, api.Errno){
	"Neg":  whole.Neg,
	"Make": func(a api.Whole) (api.Whole, api.Errno) { return whole.Make(a.Neg, a.Abs) },
	"Text": func(a api.Whole) (api.Whole, api.Errno) {
		s, e := whole.Text(a)
		return api.Whole{Neg: s != ""}, e
	},
}

// P2.1: what is handed in has to fit, whatever comes of it, and ahead of all other errors.
func TestPast(t *testing.T) {
	others := append(past(), api.Whole{}, api.Whole{Neg: true}, small(1), small(-1), small(2), small(-2), of(plus(power(mostBits), -1)))
	for _, a := range past() {
		for name, f := range one {
			got, e := f(a)
			refused(t, fmt.Sprintf("%s of %d limbs", name, len(a.Abs)), got, e, api.ErrLimit)
		}
		for name, f := range two {
			for _, b := range others {
				got, e := f(a, b)
				refused(t, fmt.Sprintf("%s of %d limbs and %d", name, len(a.Abs), len(b.Abs)), got, e, api.ErrLimit)
				got, e = f(b, a)
				refused(t, fmt.Sprintf("%s of %d limbs and %d", name, len(b.Abs), len(a.Abs)), got, e, api.ErrLimit)
			}
		}
	}
}

// P2.1: the greatest worth fits, and 0s behind it count for nothing, however many.
func TestJustFits(t *testing.T) {
	for _, n := range []*big.Int{plus(power(mostBits), -1), minus(plus(power(mostBits), -1)), new(big.Int)} {
		for _, noughts := range []int{0, 1, 64, 65, 1000} {
			a := loose(of(n), noughts)
			text, e := whole.Text(a)
			if e != api.OK || text != n.String() {
				t.Errorf("Text with %d 0s: error %d", noughts, e)
			}
			for name, want := range map[string]*big.Int{"Neg": minus(n), "Make": n} {
				got, e := one[name](a)
				check(t, name, got, e, want)
			}
			for name, want := range map[string]*big.Int{"Add": n, "Sub": n, "Mul": new(big.Int), "Pow": big.NewInt(1)} {
				got, e := two[name](a, loose(api.Whole{}, noughts))
				check(t, name, got, e, want)
			}
			for name, want := range map[string]*big.Int{"Quo": n, "Rem": new(big.Int), "Pow": n} {
				got, e := two[name](a, loose(small(1), noughts))
				check(t, name, got, e, want)
			}
		}
	}
}

// P2.2
func TestMake(t *testing.T) {
	r := rand.New(rand.NewSource(1))
	for _, n := range append(samples(r, 100), power(mostBits), minus(power(mostBits))) {
		for noughts := range 3 {
			a := of(n)
			got, e := whole.Make(a.Neg, loose(a, noughts).Abs)
			check(t, "Make", got, e, n)
			got, e = whole.Make(!a.Neg, loose(a, noughts).Abs)
			check(t, "Make of the other sign", got, e, minus(n))
		}
	}
	for _, abs := range [][]uint64{nil, {}, {0}, make([]uint64, 500)} {
		for _, neg := range []bool{false, true} {
			got, e := whole.Make(neg, abs)
			check(t, fmt.Sprintf("Make(%t, %d 0s)", neg, len(abs)), got, e, new(big.Int))
		}
	}
	got, e := whole.Make(true, []uint64{5, 0})
	check(t, "Make(true, [5 0])", got, e, big.NewInt(-5))
}

// P2.2
func TestInt(t *testing.T) {
	list := []int64{0, 1, -1, 2, -2, math.MaxInt32, math.MinInt32, math.MaxInt64, math.MaxInt64 - 1, math.MinInt64, math.MinInt64 + 1}
	r := rand.New(rand.NewSource(2))
	for range 300 {
		list = append(list, int64(r.Uint64())>>r.Intn(64))
	}
	for _, n := range list {
		a := whole.Int(n)
		check(t, "Int", a, api.OK, big.NewInt(n))
		if got, ok := whole.Int64(a); got != n || !ok {
			t.Errorf("Int64 of Int(%d): %d, %t", n, got, ok)
		}
	}
}

// P2.2
func TestInt64(t *testing.T) {
	r := rand.New(rand.NewSource(3))
	list := samples(r, 100)
	for d := int64(-3); d <= 3; d++ {
		for _, n := range []int{0, 62, 63, 64, 65, 126, 127, 128, mostBits, 2 * mostBits} {
			list = append(list, plus(power(n), d), minus(plus(power(n), d)))
		}
	}
	for range 300 {
		list = append(list, random(r, r.Intn(66)))
	}
	for _, n := range list {
		for noughts := range 3 {
			got, ok := whole.Int64(loose(of(n), noughts))
			if ok != n.IsInt64() || ok && got != n.Int64() || !ok && got != 0 {
				t.Errorf("Int64(%v) with %d 0s: %d, %t", n, noughts, got, ok)
			}
		}
	}
	for _, a := range past() {
		if got, ok := whole.Int64(a); ok || got != 0 {
			t.Errorf("Int64 of %d limbs: %d, %t", len(a.Abs), got, ok)
		}
	}
	for _, a := range []api.Whole{{}, {Neg: true}, {Neg: true, Abs: make([]uint64, 300)}} {
		if got, ok := whole.Int64(a); !ok || got != 0 {
			t.Errorf("Int64 of 0: %d, %t", got, ok)
		}
	}
}

// P2.3, P2.4: of two numbers, each in its form and in others.
func checkTwo(t *testing.T, a, b *big.Int) {
	t.Helper()
	want := map[string]*big.Int{"Add": new(big.Int).Add(a, b), "Sub": new(big.Int).Sub(a, b), "Mul": new(big.Int).Mul(a, b)}
	if b.Sign() != 0 {
		want["Quo"], want["Rem"] = new(big.Int).QuoRem(a, b, new(big.Int))
	}
	for noughts := range 3 {
		x, y := loose(of(a), noughts), loose(of(b), noughts)
		for _, name := range []string{"Add", "Sub", "Mul", "Quo", "Rem"} {
			got, e := two[name](x, y)
			if want[name] == nil {
				refused(t, name+" by 0", got, e, api.ErrZero)
			} else if !right(got, e, want[name]) {
				t.Fatalf("%s(%v, %v) with %d 0s: %v, error %d", name, a, b, noughts, got, e)
			}
		}
	}
}

// P2.3, P2.4
func TestReckoning(t *testing.T) {
	r := rand.New(rand.NewSource(4))
	list := samples(r, 12)
	for _, a := range list {
		for _, b := range list {
			checkTwo(t, a, b)
		}
	}
	for a := int64(-20); a <= 20; a++ {
		for b := int64(-20); b <= 20; b++ {
			checkTwo(t, big.NewInt(a), big.NewInt(b))
		}
	}
	for range 1500 {
		a, b := random(r, r.Intn(mostBits+1)), random(r, r.Intn(mostBits+1))
		checkTwo(t, a, b)
		checkTwo(t, a, plus(a, int64(r.Intn(5)-2)))
		checkTwo(t, a, minus(a))
	}
}

// P2.3
func TestNeg(t *testing.T) {
	r := rand.New(rand.NewSource(5))
	for _, n := range samples(r, 100) {
		for noughts := range 3 {
			got, e := whole.Neg(loose(of(n), noughts))
			check(t, "Neg", got, e, minus(n))
		}
	}
}

// P2.3: the last answers that fit, and the first that don't.
func TestLastThatFits(t *testing.T) {
	most := plus(power(mostBits), -1)
	for n := range mostBits {
		if place := n % 64; place > 2 && place < 62 {
			continue // near the limbs' ends it goes wrong, if anywhere
		}
		rest := new(big.Int).Sub(most, power(n))
		for d := int64(-1); d <= 1; d++ {
			checkTwo(t, plus(rest, d), power(n))
			checkTwo(t, minus(plus(rest, d)), minus(power(n)))
		}
		if n%16 == 1 {
			checkTwo(t, plus(power(n), -1), power(mostBits-n))
			checkTwo(t, power(n), plus(power(mostBits-n), -1))
			checkTwo(t, power(n), minus(power(mostBits-n)))
			checkTwo(t, power(n), minus(power(mostBits-n-1)))
		}
	}
}

// P2.4: the order of the errors, and 0 in all its forms.
func TestByZero(t *testing.T) {
	for _, zero := range []api.Whole{{}, {Neg: true}, {Abs: make([]uint64, 2)}, {Neg: true, Abs: make([]uint64, 700)}} {
		for _, n := range edges() {
			for _, name := range []string{"Quo", "Rem"} {
				got, e := two[name](of(n), zero)
				refused(t, name+" by 0", got, e, api.ErrZero)
			}
		}
		for _, a := range past() {
			for _, name := range []string{"Quo", "Rem"} {
				got, e := two[name](a, zero)
				refused(t, name+" of too great a number by 0", got, e, api.ErrLimit)
			}
		}
	}
}

// checkPow holds a power against the library's. (Exponents above 2^13 only of 0, 1 and -1.)
func checkPow(t *testing.T, a, n *big.Int) {
	t.Helper()
	want := new(big.Int)
	switch {
	case a.CmpAbs(big.NewInt(1)) <= 0:
		want.Exp(a, plus(new(big.Int), int64(n.Bit(0))), nil)
		if a.Sign() == 0 && n.Sign() > 0 {
			want.SetInt64(0)
		}
	case n.BitLen() > 13:
		want = power(mostBits)
	default:
		want.Exp(a, n, nil)
	}
	for noughts := range 3 {
		got, e := whole.Pow(loose(of(a), noughts), loose(of(n), noughts))
		if !right(got, e, want) {
			t.Fatalf("Pow(%v, %v) with %d 0s: %v, error %d", a, n, noughts, got, e)
		}
	}
}

// P2.5
func TestPow(t *testing.T) {
	for a := int64(-40); a <= 40; a++ {
		for n := range int64(60) {
			checkPow(t, big.NewInt(a), big.NewInt(n))
		}
	}
	// The last power that fits, its neighbours, and greater ones, whose squares below them still fit or don't.
	r := rand.New(rand.NewSource(6))
	bases := append(edges(), big.NewInt(10), big.NewInt(-10), big.NewInt(255), big.NewInt(-65537), ten(20))
	for range 60 {
		bases = append(bases, random(r, 2+r.Intn(500)))
	}
	for _, a := range bases {
		if a.BitLen() < 2 {
			continue
		}
		last := int64(0)
		for p := plus(a, 0); p.BitLen() <= mostBits; p.Mul(p, a) {
			last++
		}
		for d := int64(-3); d <= 3; d++ {
			checkPow(t, a, big.NewInt(max(last+d, 0)))
		}
		for _, n := range []int64{0, 1, 2, 3, last / 2, 2 * last, 2*last + 1} {
			checkPow(t, a, big.NewInt(n))
		}
	}
	for n := range int64(mostBits + 70) {
		checkPow(t, big.NewInt(2), big.NewInt(n))
		checkPow(t, big.NewInt(-2), big.NewInt(n))
	}
}

// P2.5: exponents without measure.
func TestGreatExponents(t *testing.T) {
	exponents := []*big.Int{ten(1000), plus(ten(1000), 1), plus(power(64), -1), power(64), plus(power(64), 1), power(63), power(32), plus(power(16), 1), power(mostBits - 1), plus(power(mostBits-1), 1), plus(power(mostBits), -1), plus(power(mostBits), -2)}
	for _, n := range exponents {
		for a := int64(-5); a <= 5; a++ {
			checkPow(t, big.NewInt(a), n)
		}
		checkPow(t, plus(power(mostBits), -1), n)
		checkPow(t, minus(power(64)), n)
	}
}

// P2.5: exponents below 0, and the order of the errors.
func TestPowRefused(t *testing.T) {
	for _, n := range edges() {
		if n.Sign() >= 0 {
			continue
		}
		for _, a := range edges() {
			got, e := whole.Pow(of(a), loose(of(n), 2))
			refused(t, fmt.Sprintf("Pow(%v, %v)", a, n), got, e, api.ErrPower)
		}
		for _, a := range past() {
			got, e := whole.Pow(a, of(n))
			refused(t, "Pow of too great a number, below 0", got, e, api.ErrLimit)
		}
	}
	got, e := whole.Pow(small(7), api.Whole{Neg: true})
	check(t, "Pow(7, -0)", got, e, big.NewInt(1))
	got, e = whole.Pow(small(1), of(minus(power(mostBits))))
	refused(t, "Pow(1, -2^4096)", got, e, api.ErrLimit)
}

// P2.6
func TestCmp(t *testing.T) {
	r := rand.New(rand.NewSource(7))
	list := samples(r, 30)
	for _, a := range past() {
		list = append(list, bigOf(a))
	}
	for _, a := range list {
		if got := whole.Sign(loose(of(a), r.Intn(3))); got != a.Sign() {
			t.Errorf("Sign(%v): %d", a, got)
		}
		for _, b := range append(list, minus(a), plus(a, 1), plus(a, -1)) {
			for _, n := range []int{0, 1, 300} {
				if got := whole.Cmp(loose(of(a), n), of(b)); got != a.Cmp(b) {
					t.Fatalf("Cmp(%v, %v) with %d 0s: %d", a, b, n, got)
				}
				if got := whole.Cmp(of(a), loose(of(b), n)); got != a.Cmp(b) {
					t.Fatalf("Cmp(%v, %v) with %d 0s behind the second: %d", a, b, n, got)
				}
			}
		}
	}
}

// P2.6: 0 is one number, however it is told.
func TestZeros(t *testing.T) {
	zeros := []api.Whole{{}, {Neg: true}, {Abs: []uint64{0}}, {Neg: true, Abs: []uint64{0}}, {Neg: true, Abs: make([]uint64, 400)}}
	for _, a := range zeros {
		if whole.Sign(a) != 0 {
			t.Errorf("Sign of 0: %d", whole.Sign(a))
		}
		for _, b := range zeros {
			if whole.Cmp(a, b) != 0 {
				t.Errorf("Cmp(%v, %v): %d", a, b, whole.Cmp(a, b))
			}
			for _, name := range []string{"Add", "Sub", "Mul"} {
				got, e := two[name](a, b)
				check(t, name+" of 0s", got, e, new(big.Int))
			}
			got, e := whole.Pow(a, b)
			check(t, "Pow(0, 0)", got, e, big.NewInt(1))
		}
		if whole.Cmp(a, small(1)) != -1 || whole.Cmp(a, small(-1)) != 1 || whole.Cmp(small(1), a) != 1 || whole.Cmp(small(-1), a) != -1 {
			t.Error("Cmp of 0 and others")
		}
		got, e := whole.Neg(a)
		check(t, "Neg of 0", got, e, new(big.Int))
		if s, e := whole.Text(a); s != "0" || e != api.OK {
			t.Errorf("Text of 0: %s, error %d", s, e)
		}
	}
}

// P2.7
func TestText(t *testing.T) {
	r := rand.New(rand.NewSource(8))
	for _, n := range samples(r, 200) {
		want := n.String()
		if got, e := whole.Text(loose(of(n), r.Intn(3))); e != api.OK || got != want {
			t.Fatalf("Text: %s, error %d, want %s", got, e, want)
		}
		got, e := whole.Parse(want)
		check(t, "Parse of "+want, got, e, n)
		digits, neg := strings.CutPrefix(want, "-")
		sign := map[bool]string{true: "-"}[neg]
		got, e = whole.Parse(sign + strings.Repeat("0", r.Intn(60)) + digits)
		check(t, "Parse of noughts and "+want, got, e, n)
	}
	for _, a := range past() {
		if s, e := whole.Text(a); e != api.ErrLimit || s != "" {
			t.Errorf("Text of %d limbs: %s, error %d", len(a.Abs), s, e)
		}
	}
}

// P2.7: texts that are read, at the edges.
func TestParse(t *testing.T) {
	noughts := strings.Repeat("0", api.MaxDigits)
	most := plus(power(mostBits), -1)
	digits := most.String()
	for what, x := range map[string]struct {
		s    string
		want *big.Int
	}{
		"noughts ahead":                    {"-007", big.NewInt(-7)},
		"below 0":                          {"-12", big.NewInt(-12)},
		"a nought below 0":                 {"-0", new(big.Int)},
		"noughts below 0":                  {"-000", new(big.Int)},
		"a nought":                         {"0", new(big.Int)},
		"the greatest":                     {digits, most},
		"the least":                        {"-" + digits, minus(most)},
		"noughts as many as may be":        {noughts, new(big.Int)},
		"as many below 0":                  {"-" + noughts[1:], new(big.Int)},
		"as many and the greatest":         {noughts[len(digits):] + digits, most},
		"as many and the least":            {"-" + noughts[len(digits)+1:] + digits, minus(most)},
		"as many and a digit below 0":      {"-" + noughts[2:] + "7", big.NewInt(-7)},
		"the least number of 64 bits":      {"-9223372036854775808", minus(power(63))},
		"a number of more than 20 of them": {"123456789012345678901234567890", new(big.Int).Add(new(big.Int).Mul(big.NewInt(123456789012345), ten(15)), big.NewInt(678901234567890))},
	} {
		got, e := whole.Parse(x.s)
		check(t, what, got, e, x.want)
	}
}

// P2.7: texts that are refused, in the order of the errors.
func TestParseRefused(t *testing.T) {
	noughts := strings.Repeat("0", api.MaxDigits)
	past := power(mostBits).String()
	for what, x := range map[string]struct {
		s string
		e api.Errno
	}{
		"nothing":                    {"", api.ErrDigit},
		"a sign alone":               {"-", api.ErrDigit},
		"a plus":                     {"+5", api.ErrDigit},
		"two signs":                  {"--5", api.ErrDigit},
		"two signs alone":            {"--", api.ErrDigit},
		"a plus behind the sign":     {"-+5", api.ErrDigit},
		"a sign behind":              {"5-", api.ErrDigit},
		"a sign within":              {"5-5", api.ErrDigit},
		"a blank ahead":              {" 5", api.ErrDigit},
		"a blank behind":             {"5 ", api.ErrDigit},
		"a blank behind the sign":    {"- 5", api.ErrDigit},
		"a blank ahead of the sign":  {" -5", api.ErrDigit},
		"a line's end":               {"-5\n", api.ErrDigit},
		"a byte 0":                   {"-5\x00", api.ErrDigit},
		"a dot":                      {"-5.0", api.ErrDigit},
		"a power":                    {"1e3", api.ErrDigit},
		"hex":                        {"0x1", api.ErrDigit},
		"an underscore":              {"1_0", api.ErrDigit},
		"a letter":                   {"x", api.ErrDigit},
		"a minus of another script":  {"\u22125", api.ErrDigit},
		"a digit of another script":  {"-\u0663", api.ErrDigit},
		"bytes that are no text":     {"-\xff", api.ErrDigit},
		"one past":                   {past, api.ErrLimit},
		"one past below 0":           {"-" + past, api.ErrLimit},
		"one past, noughts ahead":    {"-" + strings.Repeat("0", 100) + past, api.ErrLimit},
		"what layer 1 still takes":   {plus(power(2*mostBits), -1).String(), api.ErrLimit},
		"what layer 1 takes no more": {power(2 * mostBits).String(), api.ErrLimit},
		"that below 0":               {"-" + power(2*mostBits).String(), api.ErrLimit},
		"as many nines as may be":    {strings.Repeat("9", api.MaxDigits), api.ErrLimit},
		"as many below 0":            {"-" + strings.Repeat("9", api.MaxDigits-1), api.ErrLimit},
		"a wrong end of a great one": {"-" + strings.Repeat("9", 3000) + "x", api.ErrDigit},
		"a second sign ahead of it":  {"--" + strings.Repeat("9", 3000), api.ErrDigit},
		"a wrong end, just in":       {"-" + noughts[2:] + "x", api.ErrDigit},
		"too long":                   {noughts + "0", api.ErrLimit},
		"too long by its sign":       {"-" + noughts, api.ErrLimit},
		"too long and no digit":      {noughts + "x", api.ErrLimit},
		"too long, signs alone":      {strings.Repeat("-", api.MaxDigits+1), api.ErrLimit},
		"signs as many as may be":    {strings.Repeat("-", api.MaxDigits), api.ErrDigit},
	} {
		got, e := whole.Parse(x.s)
		refused(t, what, got, e, x.e)
	}
	for c := range 256 {
		for _, s := range []string{string([]byte{byte(c)}), string([]byte{'1', byte(c)}), string([]byte{'-', byte(c)}), string([]byte{'-', '1', byte(c)})} {
			_, e := whole.Parse(s)
			if digit := c >= '0' && c <= '9'; digit != (e == api.OK) || !digit && e != api.ErrDigit {
				t.Errorf("Parse(%q): error %d", s, e)
			}
		}
	}
}
