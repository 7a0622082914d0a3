package modular_test

import (
	"encoding/binary"
	"math"
	"math/big"
	"math/rand"
	"slices"
	"testing"

	"vouch/api"
	"vouch/modular"
)

const (
	ones     = math.MaxUint64
	mostBits = 64 * api.MaxLimbs // of a number
	keyBits  = api.MaxKey        // of a modulus
)

// listOf is the list of a number of the library's, in its form.
func listOf(n *big.Int) []uint64 {
	b := n.FillBytes(make([]byte, (n.BitLen()+63)/64*8))
	list := make([]uint64, len(b)/8)
	for i := range list {
		list[i] = binary.BigEndian.Uint64(b[len(b)-8*(i+1):])
	}
	return list
}

// bigOf is the number of a list, by the library.
func bigOf(a []uint64) *big.Int {
	n := new(big.Int)
	for _, x := range slices.Backward(a) {
		n.Lsh(n, 64).Or(n, new(big.Int).SetUint64(x))
	}
	return n
}

func small(n int64) []uint64 { return listOf(big.NewInt(n)) }

func power(n int) *big.Int { return new(big.Int).Lsh(big.NewInt(1), uint(n)) }

func plus(n *big.Int, by int64) *big.Int { return new(big.Int).Add(n, big.NewInt(by)) }

// padded is a list with n 0s behind it.
func padded(a []uint64, n int) []uint64 {
	return append(slices.Clone(a), make([]uint64, n)...)
}

// number is a number of exactly so many bits. Some of its limbs are 0 or all ones, since carries go wrong there.
func number(r *rand.Rand, bits int) *big.Int {
	n := new(big.Int)
	kind := r.Intn(4)
	for range (bits + 63) / 64 {
		x := r.Uint64()
		switch {
		case kind == 0 && r.Intn(2) == 0:
			x = 0
		case kind == 1 && r.Intn(2) == 0:
			x = ones
		case kind == 2:
			x = []uint64{0, 1, ones, ones - 1, 1 << 63, 1<<63 - 1}[r.Intn(6)]
		}
		n.Lsh(n, 64).Or(n, new(big.Int).SetUint64(x))
	}
	if bits > 0 {
		n.Mod(n, power(bits-1)).Or(n, power(bits-1))
	}
	return n
}

// moduli are moduli that fit: the least, the greatest, those at a limb's end, and others of all sizes.
func moduli(r *rand.Rand, n int) []*big.Int {
	var list []*big.Int
	for _, m := range []int64{1, 2, 3, 4, 7, 60} {
		list = append(list, big.NewInt(m))
	}
	for _, bits := range []int{63, 64, 65, 128, 2048, keyBits - 1} {
		list = append(list, plus(power(bits), -1), power(bits), plus(power(bits), 1))
	}
	list = append(list, plus(power(keyBits), -1), plus(power(keyBits), -2), number(r, keyBits), number(r, keyBits))
	for range n {
		list = append(list, number(r, 1+r.Intn(keyBits)), number(r, 1+r.Intn(200)))
	}
	return list
}

// numbers are numbers that fit: those at which something begins or ends over a modulus, and others of all sizes.
func numbers(r *rand.Rand, m *big.Int, n int) []*big.Int {
	list := []*big.Int{new(big.Int), big.NewInt(1), big.NewInt(2), plus(m, -1), m, plus(m, 1), power(mostBits - 1), plus(power(mostBits), -1)}
	twice := new(big.Int).Lsh(m, 1)
	list = append(list, plus(twice, -1), twice, plus(twice, 1), plus(new(big.Int).Mul(m, m), -1), new(big.Int).Rsh(m, 1))
	for range n {
		list = append(list, number(r, r.Intn(m.BitLen()+1)), number(r, r.Intn(mostBits+1)))
	}
	return list
}

// two are the calls with two numbers and a modulus.
var two = map[string]func(a, b, m []uint64) ([]uint64, api.Errno){
	"Add": modular.Add, "Sub": modular.Sub, "Mul": modular.Mul, "Pow": modular.Pow,
}

// single are the calls with one number and a modulus.
var single = map[string]func(a, m []uint64) ([]uint64, api.Errno){
	"Of": modular.Of, "Inverse": modular.Inverse,
}

// library is what the calls with two numbers answer, by the library.
var library = map[string]func(a, b, m *big.Int) *big.Int{
	"Add": func(a, b, m *big.Int) *big.Int { n := new(big.Int).Add(a, b); return n.Mod(n, m) },
	"Sub": func(a, b, m *big.Int) *big.Int { n := new(big.Int).Sub(a, b); return n.Mod(n, m) },
	"Mul": func(a, b, m *big.Int) *big.Int { n := new(big.Int).Mul(a, b); return n.Mod(n, m) },
	"Pow": func(a, b, m *big.Int) *big.Int { return new(big.Int).Exp(a, b, m) },
}

// same holds an answer against a number of the library's, in its form.
func same(t *testing.T, what string, got []uint64, e api.Errno, want *big.Int) {
	t.Helper()
	if e != api.OK || !slices.Equal(got, listOf(want)) {
		t.Fatalf("%s: %x, error %d, want %x", what, got, e, listOf(want))
	}
}

// refused holds an answer against an error.
func refused(t *testing.T, what string, got []uint64, e, want api.Errno) {
	t.Helper()
	if e != want || len(got) > 0 {
		t.Fatalf("%s: %x, error %d, want error %d and nothing", what, got, e, want)
	}
}
