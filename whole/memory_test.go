package whole_test

import (
	"math/big"
	"math/rand"
	"slices"
	"testing"

	"vouch/api"
	"vouch/whole"
)

const mark = 0xfeedfacefeedface

// roomy is a number with marked memory behind its worth.
func roomy(a api.Whole) api.Whole {
	room := append(slices.Clone(a.Abs), slices.Repeat([]uint64{mark}, 8)...)
	return api.Whole{Neg: a.Neg, Abs: room[:len(a.Abs)]}
}

// calls are all calls that take numbers. Those that tell no number are called alone.
func calls() map[string]func(a, b api.Whole) api.Whole {
	list := map[string]func(a, b api.Whole) api.Whole{
		"Make": func(a, b api.Whole) api.Whole { x, _ := whole.Make(b.Neg, a.Abs); return x },
		"Neg":  func(a, b api.Whole) api.Whole { x, _ := whole.Neg(a); return x },
		"the rest": func(a, b api.Whole) api.Whole {
			whole.Cmp(a, b)
			whole.Sign(a)
			whole.Int64(b)
			whole.Text(a)
			return api.Whole{}
		},
	}
	for name, f := range two {
		list[name] = func(a, b api.Whole) api.Whole { x, _ := f(a, b); return x }
	}
	return list
}

// scribble writes over all the memory of a number's worth, what lies behind its length included.
func scribble(a api.Whole) {
	for i := range a.Abs[:cap(a.Abs)] {
		a.Abs[:cap(a.Abs)][i] ^= mark
	}
}

func cloned(a api.Whole) api.Whole {
	return api.Whole{Neg: a.Neg, Abs: slices.Clone(a.Abs)}
}

// What is handed in stays as it is, what lies behind it included; answers share no memory with it, nor with one another.
func TestMemory(t *testing.T) {
	r := rand.New(rand.NewSource(21))
	var list []api.Whole
	for _, n := range append(edges(), big.NewInt(5), big.NewInt(-12)) {
		list = append(list, of(n), loose(of(n), 2))
	}
	list = append(list, of(power(mostBits)), of(minus(power(2*mostBits))))
	for range 6 {
		list = append(list, of(random(r, r.Intn(mostBits))))
	}
	for name, call := range calls() {
		for _, a := range list {
			for _, b := range list {
				checkMemory(t, name, call, a, b)
			}
		}
	}
}

func checkMemory(t *testing.T, name string, call func(a, b api.Whole) api.Whole, a, b api.Whole) {
	t.Helper()
	x, y := roomy(a), roomy(b)
	givenX, givenY := slices.Clone(x.Abs[:cap(x.Abs)]), slices.Clone(y.Abs[:cap(y.Abs)])
	unchanged := func() bool {
		return slices.Equal(givenX, x.Abs[:cap(x.Abs)]) && slices.Equal(givenY, y.Abs[:cap(y.Abs)])
	}
	first := call(x, y)
	if !unchanged() {
		t.Fatalf("%s(%v, %v) changes what is handed in", name, a, b)
	}
	kept := cloned(first)
	second := call(x, y)
	if !same(second, kept) {
		t.Fatalf("%s(%v, %v) answers otherwise the second time", name, a, b)
	}
	scribble(first)
	if !unchanged() {
		t.Fatalf("%s(%v, %v): the answer shares memory with what is handed in", name, a, b)
	}
	if !same(second, kept) || !same(call(x, y), kept) {
		t.Fatalf("%s(%v, %v): answers of two calls share memory", name, a, b)
	}
	scribble(x)
	scribble(y)
	if !same(second, kept) {
		t.Fatalf("%s(%v, %v): the answer hangs on what was handed in", name, a, b)
	}
	// One list for both numbers.
	z := roomy(a)
	want := call(cloned(a), cloned(a))
	if !same(call(z, z), want) || !slices.Equal(z.Abs, a.Abs) {
		t.Fatalf("%s(%v, the same list)", name, a)
	}
}

// Behind Int and Parse, too, each answer is of its own.
func TestMadeMemory(t *testing.T) {
	for text, n := range map[string]int64{"0": 0, "7": 7, "-7": -7, "-9223372036854775808": -1 << 63} {
		for name, call := range map[string]func() api.Whole{
			"Int":   func() api.Whole { return whole.Int(n) },
			"Parse": func() api.Whole { x, _ := whole.Parse(text); return x },
		} {
			one, two := call(), call()
			want := cloned(two)
			scribble(one)
			if !same(two, want) || !same(call(), want) || !same(want, small(n)) {
				t.Errorf("answers of %s share memory: %s", name, text)
			}
		}
	}
}
