package ratio_test

import (
	"math/big"
	"math/rand"
	"slices"
	"testing"

	"vouch/api"
	"vouch/ratio"
)

const mark = 0xfeedfacefeedface

// roomy is a list with marked memory behind it.
func roomy(a []uint64) []uint64 {
	return append(slices.Clone(a), slices.Repeat([]uint64{mark}, 8)...)[: len(a) : len(a)+8]
}

// roomyRatio is a ratio with marked memory behind its parts.
func roomyRatio(a api.Ratio) api.Ratio {
	return api.Ratio{Num: api.Whole{Neg: a.Num.Neg, Abs: roomy(a.Num.Abs)}, Den: roomy(a.Den)}
}

// all is all the memory of a ratio, what lies behind its parts included.
func all(a api.Ratio) []uint64 {
	return slices.Concat(a.Num.Abs[:cap(a.Num.Abs)], a.Den[:cap(a.Den)])
}

func cloned(a api.Ratio) api.Ratio {
	return api.Ratio{Num: api.Whole{Neg: a.Num.Neg, Abs: slices.Clone(a.Num.Abs)}, Den: slices.Clone(a.Den)}
}

// scribble writes over all the memory of a list, what lies behind its length included.
func scribble(a []uint64) {
	a = a[:cap(a)]
	for i := range a {
		a[i] ^= mark
	}
}

// calls are all calls that take numbers. Those that tell no number are called alone.
func calls() map[string]func(a, b api.Ratio) api.Ratio {
	list := map[string]func(a, b api.Ratio) api.Ratio{
		"Neg":   func(a, b api.Ratio) api.Ratio { x, _ := ratio.Neg(a); return x },
		"Of":    func(a, b api.Ratio) api.Ratio { x, _ := ratio.Of(a.Num, b.Num); return x },
		"From":  func(a, b api.Ratio) api.Ratio { x, _ := ratio.From(a.Num); return x },
		"Whole": func(a, b api.Ratio) api.Ratio { x, _ := ratio.Whole(a); return api.Ratio{Num: x} },
		"the rest": func(a, b api.Ratio) api.Ratio {
			ratio.Cmp(a, b)
			ratio.Text(a)
			return api.Ratio{}
		},
	}
	for _, name := range []string{"Add", "Sub", "Mul", "Div", "Pow"} {
		list[name] = func(a, b api.Ratio) api.Ratio { x, _ := two[name](a, b); return x }
	}
	return list
}

// What is handed in stays as it is, what lies behind it included; answers share no memory with it, nor with one another, nor within themselves.
func TestMemory(t *testing.T) {
	r := rand.New(rand.NewSource(41))
	list := []api.Ratio{past()[0], past()[3], {}, small(-5, 0)}
	for _, x := range []*big.Rat{new(big.Rat), big.NewRat(1, 1), big.NewRat(-1, 1), big.NewRat(5, 1), big.NewRat(-1, 5), big.NewRat(-7, 3)} {
		list = append(list, of(x), loose(scaled(of(x), big.NewInt(9)), 1))
	}
	for _, x := range []*big.Rat{rat(most(), plus(most(), -1)), rat(minus(power(mostBits-1)), most()), rat(big.NewInt(1), most()), random(r, 1000)} {
		list = append(list, of(x))
	}
	for name, call := range calls() {
		for _, a := range list {
			for _, b := range list {
				checkMemory(t, name, call, a, b)
			}
		}
	}
}

func checkMemory(t *testing.T, name string, call func(a, b api.Ratio) api.Ratio, a, b api.Ratio) {
	t.Helper()
	x, y := roomyRatio(a), roomyRatio(b)
	givenX, givenY := all(x), all(y)
	unchanged := func() bool { return slices.Equal(givenX, all(x)) && slices.Equal(givenY, all(y)) }
	first := call(x, y)
	if !unchanged() {
		t.Fatalf("%s(%v, %v) changes what is handed in", name, a, b)
	}
	kept := cloned(first)
	second := call(x, y)
	if !same(second, kept) {
		t.Fatalf("%s(%v, %v) answers otherwise the second time", name, a, b)
	}
	scribble(first.Num.Abs)
	if !slices.Equal(first.Den, kept.Den) {
		t.Fatalf("%s(%v, %v): the parts of the answer share memory", name, a, b)
	}
	scribble(first.Den)
	if !unchanged() {
		t.Fatalf("%s(%v, %v): the answer shares memory with what is handed in", name, a, b)
	}
	if !same(second, kept) || !same(call(x, y), kept) {
		t.Fatalf("%s(%v, %v): answers of two calls share memory", name, a, b)
	}
	for _, part := range [][]uint64{x.Num.Abs, x.Den, y.Num.Abs, y.Den} {
		scribble(part)
	}
	if !same(second, kept) {
		t.Fatalf("%s(%v, %v): the answer hangs on what was handed in", name, a, b)
	}
}

// One list for both ratios, and for both parts.
func TestSameList(t *testing.T) {
	for name, call := range calls() {
		for _, n := range []int64{1, 2, 6} {
			part := roomy([]uint64{uint64(n)})
			a := api.Ratio{Num: api.Whole{Abs: part}, Den: part}
			if got, want := call(a, a), call(small(n, n), small(n, n)); !same(got, want) || part[0] != uint64(n) {
				t.Errorf("%s of %d/%d twice: %v, want %v", name, n, n, got, want)
			}
		}
	}
}

// Behind Parse, too, each answer is of its own.
func TestParsedMemory(t *testing.T) {
	for text, want := range map[string]api.Ratio{"0": small(0, 1), "1": small(1, 1), "-7.5": small(-15, 2), "0.01": small(1, 100)} {
		one, e := ratio.Parse(text)
		two, _ := ratio.Parse(text)
		scribble(one.Num.Abs)
		if e != api.OK || !slices.Equal(one.Den, want.Den) {
			t.Errorf("the parts of Parse(%s) share memory", text)
		}
		scribble(one.Den)
		if three, _ := ratio.Parse(text); !same(two, want) || !same(three, want) {
			t.Errorf("answers of Parse share memory: %s", text)
		}
	}
}

// What is too great by far is refused like what is just too great.
func TestVast(t *testing.T) {
	vast := make([]uint64, 1<<20)
	vast[len(vast)-1] = 1
	a := api.Ratio{Num: api.Whole{Abs: vast}, Den: vast}
	for name, f := range two {
		got, e := f(a, a)
		refused(t, name, got, e, api.ErrLimit)
	}
	got, e := ratio.Of(a.Num, a.Num)
	refused(t, "Of", got, e, api.ErrLimit)
}
