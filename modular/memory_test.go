package modular_test

import (
	"math/rand"
	"slices"
	"testing"
)

const mark = 0xfeedfacefeedface

// roomy is a list with marked memory behind it.
func roomy(a []uint64) []uint64 {
	return append(slices.Clone(a), slices.Repeat([]uint64{mark}, 8)...)[: len(a) : len(a)+8]
}

// scribble writes over all the memory of a list, what lies behind its length included.
func scribble(a []uint64) {
	a = a[:cap(a)]
	for i := range a {
		a[i] ^= mark
	}
}

// calls are all calls, each with two numbers and a modulus.
func calls() map[string]func(a, b, m []uint64) []uint64 {
	list := map[string]func(a, b, m []uint64) []uint64{}
	for name, f := range single {
		list[name] = func(a, b, m []uint64) []uint64 { x, _ := f(a, m); return x }
	}
	for name, f := range two {
		list[name] = func(a, b, m []uint64) []uint64 { x, _ := f(a, b, m); return x }
	}
	return list
}

// What is handed in stays as it is, what lies behind it included; answers share no memory with it, nor with one another.
func TestMemory(t *testing.T) {
	r := rand.New(rand.NewSource(56))
	list := [][]uint64{nil, {0, 0}, {1}, {2}, {5}, {7, 0}, {0, 8}, listOf(plus(power(keyBits), -1)), listOf(number(r, 300)), listOf(power(mostBits))}
	numbers := append(list, listOf(plus(power(mostBits), -1)))
	for name, call := range calls() {
		for _, m := range list {
			for _, a := range numbers {
				for _, b := range numbers {
					if name == "Pow" && len(b) > 5 && len(m) > 5 {
						b = b[:5]
					}
					checkMemory(t, name, call, a, b, m)
				}
			}
		}
	}
}

func checkMemory(t *testing.T, name string, call func(a, b, m []uint64) []uint64, a, b, m []uint64) {
	t.Helper()
	x, y, z := roomy(a), roomy(b), roomy(m)
	all := func() []uint64 { return slices.Concat(x[:cap(x)], y[:cap(y)], z[:cap(z)]) }
	given := all()
	first := call(x, y, z)
	if !slices.Equal(given, all()) {
		t.Fatalf("%s(%x, %x, %x) changes what is handed in", name, a, b, m)
	}
	want := slices.Clone(first)
	second := call(x, y, z)
	if !slices.Equal(second, want) {
		t.Fatalf("%s(%x, %x, %x) answers otherwise the second time", name, a, b, m)
	}
	scribble(first)
	if !slices.Equal(given, all()) {
		t.Fatalf("%s(%x, %x, %x): the answer shares memory with what is handed in", name, a, b, m)
	}
	if !slices.Equal(second, want) || !slices.Equal(call(x, y, z), want) {
		t.Fatalf("%s(%x, %x, %x): answers of two calls share memory", name, a, b, m)
	}
	scribble(x)
	scribble(y)
	scribble(z)
	if !slices.Equal(second, want) {
		t.Fatalf("%s(%x, %x, %x): the answer hangs on what was handed in", name, a, b, m)
	}
}

// One list for all numbers and the modulus.
func TestSameList(t *testing.T) {
	r := rand.New(rand.NewSource(57))
	for name, call := range calls() {
		for _, a := range [][]uint64{nil, {1}, {6}, {7, 0}, listOf(number(r, 200))} {
			x := roomy(a)
			want := call(slices.Clone(a), slices.Clone(a), slices.Clone(a))
			if got := call(x, x, x); !slices.Equal(got, want) || !slices.Equal(x, a) {
				t.Errorf("%s of %x thrice: %x, want %x", name, a, got, want)
			}
		}
	}
}
