package nat_test

import (
	"math/rand"
	"slices"
	"testing"

	"vouch/nat"
)

const mark = 0xfeedfacefeedface

// roomy is a list with marked memory behind its length.
func roomy(a []uint64) []uint64 {
	whole := append(slices.Clone(a), filled(8, mark)...)
	return whole[:len(a)]
}

// calls are all calls that take lists, each with its answers' lists.
func calls(n int) map[string]func(a, b []uint64) [][]uint64 {
	return map[string]func(a, b []uint64) [][]uint64{
		"Norm": func(a, b []uint64) [][]uint64 { x, _ := nat.Norm(a); return [][]uint64{x} },
		"Add":  func(a, b []uint64) [][]uint64 { x, _ := nat.Add(a, b); return [][]uint64{x} },
		"Sub":  func(a, b []uint64) [][]uint64 { x, _ := nat.Sub(a, b); return [][]uint64{x} },
		"Mul":  func(a, b []uint64) [][]uint64 { x, _ := nat.Mul(a, b); return [][]uint64{x} },
		"Div":  func(a, b []uint64) [][]uint64 { x, y, _ := nat.Div(a, b); return [][]uint64{x, y} },
		"Gcd":  func(a, b []uint64) [][]uint64 { x, _ := nat.Gcd(a, b); return [][]uint64{x} },
		"Shift": func(a, b []uint64) [][]uint64 {
			x, _ := nat.Shift(a, n)
			y, _ := nat.Shift(b, -n)
			return [][]uint64{x, y}
		},
		"the rest": func(a, b []uint64) [][]uint64 {
			nat.Cmp(a, b)
			nat.Bits(a)
			nat.Text(a)
			nat.Bytes(b)
			return nil
		},
	}
}

// scribble writes over all the memory of lists, what lies behind their lengths included.
func scribble(lists [][]uint64) {
	for _, a := range lists {
		a = a[:cap(a)]
		for i := range a {
			a[i] ^= mark
		}
	}
}

func clones(lists [][]uint64) [][]uint64 {
	var all [][]uint64
	for _, a := range lists {
		all = append(all, slices.Clone(a))
	}
	return all
}

func equal(a, b [][]uint64) bool {
	return slices.EqualFunc(a, b, func(x, y []uint64) bool { return slices.Equal(x, y) })
}

// What is handed in stays as it is, what lies behind it included; answers share no memory with it, nor with one another.
func TestMemory(t *testing.T) {
	r := rand.New(rand.NewSource(16))
	most := filled(limbs, ones)
	pairs := [][2][]uint64{
		{nil, nil}, {{5}, {7}}, {{7}, {5}}, {{5}, {5}}, {{5}, {1}}, {{5}, nil}, {nil, {5}}, {{0, 0}, {0}}, {{5, 0, 0}, {3, 0}},
		{{0, 8}, {0, 12}}, {{0, 8}, {0, 4}}, {most, {1}}, {{1}, most}, {most, most}, {most, nil}, {above(limbs + 1), {1}}, {{1}, above(300)},
	}
	for range 40 {
		pairs = append(pairs, [2][]uint64{padded(random(r, r.Intn(80)), r.Intn(3)), random(r, r.Intn(60))})
	}
	for _, n := range []int{0, 1, 64, 200} {
		for name, call := range calls(n) {
			for _, p := range pairs {
				checkMemory(t, name, call, p[0], p[1])
			}
		}
	}
}

func checkMemory(t *testing.T, name string, call func(a, b []uint64) [][]uint64, a, b []uint64) {
	t.Helper()
	x, y := roomy(a), roomy(b)
	given := [][]uint64{slices.Clone(x[:cap(x)]), slices.Clone(y[:cap(y)])}
	unchanged := func() bool { return equal(given, [][]uint64{x[:cap(x)], y[:cap(y)]}) }
	first := call(x, y)
	if !unchanged() {
		t.Fatalf("%s(%x, %x) changes what is handed in", name, a, b)
	}
	kept := clones(first)
	second := call(x, y)
	if !equal(second, kept) {
		t.Fatalf("%s(%x, %x) answers otherwise the second time", name, a, b)
	}
	for i := range first {
		scribble(first[i : i+1])
		if !equal(first[i+1:], kept[i+1:]) {
			t.Fatalf("%s(%x, %x): its answers share memory", name, a, b)
		}
	}
	if !unchanged() {
		t.Fatalf("%s(%x, %x): an answer shares memory with what is handed in", name, a, b)
	}
	if !equal(second, kept) || !equal(call(x, y), kept) {
		t.Fatalf("%s(%x, %x): answers of two calls share memory", name, a, b)
	}
	scribble([][]uint64{x, y})
	if !equal(second, kept) {
		t.Fatalf("%s(%x, %x): an answer hangs on what was handed in", name, a, b)
	}
	// One list for both numbers.
	z := roomy(a)
	want := call(slices.Clone(a), slices.Clone(a))
	if !equal(call(z, z), want) || !slices.Equal(z, a) {
		t.Fatalf("%s(%x, the same list)", name, a)
	}
}

// The same for lists of bytes.
func TestBytesMemory(t *testing.T) {
	a := []uint64{0x0102030405060708, 9}
	first, _ := nat.Bytes(a)
	second, _ := nat.Bytes(a)
	want := slices.Clone(first)
	for i := range first[:cap(first)] {
		first[:cap(first)][i] ^= 0xff
	}
	if !slices.Equal(second, want) || !slices.Equal(a, []uint64{0x0102030405060708, 9}) {
		t.Error("Bytes shares memory")
	}
	b := []byte{0, 0, 1, 2, 3, 4, 5, 6, 7, 8, 9, 0xee, 0xee}
	whole := slices.Clone(b)
	one, _ := nat.From(b[:11])
	two, _ := nat.From(b[:11])
	three := slices.Clone(one)
	scribble([][]uint64{one})
	if !slices.Equal(b, whole) || !slices.Equal(two, three) {
		t.Error("From shares memory")
	}
}

// Behind Parse, too, each answer is of its own.
func TestParseMemory(t *testing.T) {
	for _, s := range []string{"0", "7", "18446744073709551616"} {
		one, _ := nat.Parse(s)
		two, _ := nat.Parse(s)
		want := slices.Clone(two)
		scribble([][]uint64{one})
		if three, _ := nat.Parse(s); !slices.Equal(two, want) || !slices.Equal(three, want) {
			t.Errorf("answers of Parse(%s) share memory", s)
		}
	}
}
