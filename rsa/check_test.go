package rsa_test

import (
	"math/big"
	"math/rand"
	"testing"

	"vouch/api"
	"vouch/rsa"
)

// moduli are numbers of all lengths at which something begins or ends, odd ones and even ones.
func moduli(r *rand.Rand) []*big.Int {
	list := []*big.Int{small(0), small(1), small(2), small(3), small(5), small(7), small(15), plus(power(64), 1), power(64)}
	for _, bits := range []int{8, 63, 64, 65, 128, 359, 360, 361, 366, 367, 368, 369, 376, 384, 512, 1024, 4088, 4089, 4095, 4096, 4097, 4104, 4160, 8192, 8193, 10000} {
		list = append(list, power(bits-1), plus(power(bits-1), 1), plus(power(bits), -1), plus(power(bits), -2), odd(r, bits), times(odd(r, bits-1), small(2)))
	}
	return list
}

// exponents are numbers about those at which an exponent of a key may begin or end.
func exponents(r *rand.Rand, n *big.Int) []*big.Int {
	list := []*big.Int{power(64), plus(power(64), 1), plus(power(64), 3), power(4095), plus(power(4096), 1), plus(power(9000), 1), times(n, small(3)), plus(power(n.BitLen()), 1)}
	for i := range int64(9) {
		list = append(list, small(i))
	}
	list = append(list, small(65537), small(65536), odd(r, 100), number(r, 367), odd(r, 367))
	for i := int64(-5); i < 6; i++ {
		if e := plus(n, i); e.Sign() >= 0 {
			list = append(list, e)
		}
	}
	return list
}

// P8.1: a key may be just where the chapter's words say so; noughts at its lists' ends count for nothing.
func TestCheck(t *testing.T) {
	r := rand.New(rand.NewSource(11))
	count := map[api.Errno]int{}
	for _, n := range moduli(r) {
		for _, e := range exponents(r, n) {
			want := api.ErrKey
			if mayBe(n, e) {
				want = api.OK
			}
			count[want]++
			checks(t, keyOf(n, e), want)
			checks(t, api.Key{N: padded(listOf(n), r.Intn(4)), E: padded(listOf(e), r.Intn(4))}, want)
			checks(t, api.Key{N: padded(listOf(n), 200), E: padded(listOf(e), 200)}, want)
		}
	}
	if count[api.OK] < 300 || count[api.ErrKey] < 1000 {
		t.Errorf("%v", count)
	}
}

// P8.1: each edge by itself: N's parity and its bits, E's parity and its bounds.
func TestCheckEdges(t *testing.T) {
	good, three := plus(power(511), 1), small(3)
	for _, x := range []struct {
		name string
		n, e *big.Int
		want api.Errno
	}{
		{"N 15", small(15), three, api.ErrKey},
		{"N 0", small(0), three, api.ErrKey},
		{"N 0, E 0", small(0), small(0), api.ErrKey},
		{"N 1", small(1), small(0), api.ErrKey},
		{"the least N of 367 bits", plus(power(366), 1), three, api.ErrKey},
		{"the greatest N of 367 bits", plus(power(367), -1), three, api.ErrKey},
		{"the least N of 368 bits, even", power(367), three, api.ErrKey},
		{"the least odd N of 368 bits", plus(power(367), 1), three, api.OK},
		{"the greatest N of 368 bits", plus(power(368), -1), three, api.OK},
		{"N even", plus(good, 1), three, api.ErrKey},
		{"N even, E even", plus(good, 1), small(4), api.ErrKey},
		{"the greatest N of 4096 bits", plus(power(4096), -1), three, api.OK},
		{"the greatest N of 4096 bits, even", plus(power(4096), -2), three, api.ErrKey},
		{"an N of 4097 bits, even", power(4096), three, api.ErrKey},
		{"the least odd N of 4097 bits", plus(power(4096), 1), three, api.ErrKey},
		{"an N past all limbs", plus(power(9000), 1), three, api.ErrKey},
		{"E 0", good, small(0), api.ErrKey},
		{"E 1", good, small(1), api.ErrKey},
		{"E 2", good, small(2), api.ErrKey},
		{"E 3", good, three, api.OK},
		{"E 4", good, small(4), api.ErrKey},
		{"E 5", good, small(5), api.OK},
		{"E 2^64", good, power(64), api.ErrKey},
		{"E 2^64 + 1", good, plus(power(64), 1), api.OK},
		{"E N - 3", good, plus(good, -3), api.ErrKey},
		{"E N - 2", good, plus(good, -2), api.OK},
		{"E N - 1", good, plus(good, -1), api.ErrKey},
		{"E N", good, good, api.ErrKey},
		{"E N + 1", good, plus(good, 1), api.ErrKey},
		{"E N + 2", good, plus(good, 2), api.ErrKey},
		{"E of more bits", good, plus(power(600), 1), api.ErrKey},
		{"E past all limbs", good, plus(power(9000), 1), api.ErrKey},
		{"E N - 2 of 4096 bits", plus(power(4096), -1), plus(power(4096), -3), api.OK},
	} {
		t.Run(x.name, func(t *testing.T) {
			checks(t, keyOf(x.n, x.e), x.want)
		})
	}
}

// P8.1: nil lists, empty ones and ones of noughts are no key's.
func TestCheckNone(t *testing.T) {
	n, e := listOf(plus(power(511), 1)), []uint64{3}
	for _, none := range [][]uint64{nil, {}, {0}, make([]uint64, 6), make([]uint64, 64), make([]uint64, 300)} {
		checks(t, api.Key{N: none, E: e}, api.ErrKey)
		checks(t, api.Key{N: n, E: none}, api.ErrKey)
		checks(t, api.Key{N: none, E: none}, api.ErrKey)
		if got := rsa.Size(api.Key{N: none, E: e}); got != 0 {
			t.Errorf("Size of an N of %d noughts: %d", len(none), got)
		}
	}
}

// P8.2: Size is how many bytes N has, of any key, also of one that may not be.
func TestSize(t *testing.T) {
	r := rand.New(rand.NewSource(12))
	for bits := range 1300 {
		for _, n := range []*big.Int{number(r, bits), plus(power(bits), -1), power(bits)} {
			isSize(t, r, n)
		}
	}
	for _, bits := range []int{4087, 4088, 4089, 4095, 4096, 4097, 8191, 8192, 8193, 8200, 20000, 65536, 1000001} {
		isSize(t, r, number(r, bits))
		isSize(t, r, power(bits-1))
		isSize(t, r, plus(power(bits), -1))
	}
}

func isSize(t *testing.T, r *rand.Rand, n *big.Int) {
	t.Helper()
	want := sizeOf(n)
	for _, k := range []api.Key{{N: listOf(n)}, {N: padded(listOf(n), 1+r.Intn(150)), E: []uint64{3}}, {N: listOf(n), E: listOf(power(70))}} {
		if got := rsa.Size(k); got != want {
			t.Fatalf("Size of %x: %d, want %d", n, got, want)
		}
	}
}
