package rsa_test

import (
	"bytes"
	"math/big"
	"math/rand"
	"testing"

	"vouch/api"
	"vouch/rsa"
)

// keyed are numbers of keys that may be: of lengths about whole bytes and whole limbs, with exponents small and great.
func keyed(r *rand.Rand) [][2]*big.Int {
	var list [][2]*big.Int
	for bits := 368; bits <= 392; bits++ {
		list = append(list, [2]*big.Int{odd(r, bits), small(3)}, [2]*big.Int{odd(r, bits), odd(r, 2+r.Intn(300))})
	}
	for _, bits := range []int{368, 384, 447, 448, 449, 505, 512, 513, 1017, 1024} {
		n := odd(r, bits)
		list = append(list, [2]*big.Int{n, small(65537)}, [2]*big.Int{n, plus(n, -2)}, [2]*big.Int{plus(power(bits), -1), small(5)}, [2]*big.Int{plus(power(bits-1), 1), small(7)})
	}
	for _, bits := range []int{2048, 4088, 4089, 4095, 4096} {
		list = append(list, [2]*big.Int{odd(r, bits), small(3)}, [2]*big.Int{plus(power(bits), -1), small(17)})
	}
	n := odd(r, 4096)
	return append(list, [2]*big.Int{n, small(65537)}, [2]*big.Int{n, plus(power(64), 1)}, [2]*big.Int{n, plus(n, -2)})
}

// numbersFor are numbers to be raised: about 0 and N, of few bytes, of all.
func numbersFor(r *rand.Rand, n *big.Int) []*big.Int {
	list := []*big.Int{small(0), small(1), small(2), small(255), small(256), power(64), plus(n, -1), plus(n, -2), over(n, small(2)), power(n.BitLen() - 1)}
	for range 6 {
		list = append(list, below(r, n))
	}
	return list
}

// P8.3: the number to the power E modulo N, in as many bytes as N has.
func TestRaise(t *testing.T) {
	r := rand.New(rand.NewSource(31))
	for _, x := range keyed(r) {
		n, e := x[0], x[1]
		many := numbersFor(r, n)
		if e.BitLen() > 2000 { // these take long
			many = []*big.Int{small(0), plus(n, -1), below(r, n)}
		}
		for _, a := range many {
			want := api.OK
			if a.Cmp(n) >= 0 { // N may be a power of 2 and 1
				want = api.ErrSize
			}
			if err := raises(t, n, e, inBytes(a, sizeOf(n))); err != want {
				t.Fatalf("Raise(N %x, E %x, %x): error %d", n, e, a, err)
			}
		}
	}
}

// P8.3: of 0, 1 and N - 1 the powers are these numbers themselves, since E is odd.
func TestRaiseItself(t *testing.T) {
	r := rand.New(rand.NewSource(32))
	for _, x := range keyed(r) {
		n, e := x[0], x[1]
		if e.BitLen() > 2000 {
			continue
		}
		for _, a := range []*big.Int{small(0), small(1), plus(n, -1)} {
			s := inBytes(a, sizeOf(n))
			if got, err := rsa.Raise(keyOf(n, e), s); err != api.OK || !bytes.Equal(got, s) {
				t.Fatalf("Raise(N %x, E %x, %x): %x, error %d", n, e, s, got, err)
			}
		}
	}
}

// P8.3: a signature of another size is refused, be its number as it may; one whose number is N or more is too.
func TestRaiseSizes(t *testing.T) {
	r := rand.New(rand.NewSource(33))
	for _, x := range keyed(r) {
		n, e := x[0], x[1]
		k, size := keyOf(n, e), sizeOf(n)
		for _, long := range []int{0, 1, size - 8, size - 2, size - 1, size + 1, size + 2, size + 8, 2 * size, 511, 512, 513, 1024, 1025, 5000} {
			if long != size {
				refuses(t, k, make([]byte, long), api.ErrSize)
				refuses(t, k, bytes.Repeat([]byte{0xFF}, long), api.ErrSize)
				refuses(t, k, drawn(r, long), api.ErrSize)
			}
		}
		refuses(t, k, nil, api.ErrSize)
		refuses(t, k, bytes.Repeat([]byte{0xFF}, size), sizeOfOnes(n))
		for _, more := range []*big.Int{small(0), small(1), small(2), below(r, n)} {
			if a := new(big.Int).Add(n, more); sizeOf(a) == size {
				refuses(t, k, inBytes(a, size), api.ErrSize)
			}
		}
	}
}

// sizeOfOnes: all ones are not below N, but where N is a power of 2 less 1 they are just it.
func sizeOfOnes(n *big.Int) api.Errno {
	if plus(power(8*sizeOf(n)), -1).Cmp(n) < 0 {
		return api.OK
	}
	return api.ErrSize
}

// P8.3: where N's first byte is 1, all but its first bit fill whole bytes.
func TestRaiseFirstBit(t *testing.T) {
	r := rand.New(rand.NewSource(34))
	for _, bits := range []int{369, 377, 385, 513, 1025, 4089} {
		n := odd(r, bits)
		size := sizeOf(n)
		if size != (bits+7)/8 || inBytes(n, size)[0] != 1 {
			t.Fatal(bits)
		}
		for _, a := range []*big.Int{small(0), small(1), plus(power(bits-1), -1), plus(n, -1), below(r, n)} {
			raises(t, n, small(3), inBytes(a, size))
		}
		raises(t, n, small(3), inBytes(plus(power(bits-1), -1), size-1))
		raises(t, n, small(3), inBytes(n, size))
		raises(t, n, small(3), inBytes(power(bits), size))
	}
}

// P8.3, P8.5: a key that may not be is refused ahead of a signature of another size, in Verify too.
func TestRaiseOrder(t *testing.T) {
	r := rand.New(rand.NewSource(35))
	good := odd(r, 512)
	for _, x := range [][2]*big.Int{
		{small(0), small(3)}, {small(15), small(3)}, {odd(r, 367), small(3)}, {odd(r, 4097), small(3)}, {plus(good, 1), small(3)},
		{good, small(0)}, {good, small(1)}, {good, small(2)}, {good, small(4)}, {good, good}, {good, plus(good, 2)}, {odd(r, 9000), odd(r, 9000)},
	} {
		k, size := keyOf(x[0], x[1]), sizeOf(x[0])
		for _, s := range [][]byte{nil, {}, make([]byte, size), make([]byte, size+1), make([]byte, max(size-1, 0)), bytes.Repeat([]byte{0xFF}, size), drawn(r, 64), drawn(r, 600)} {
			refuses(t, k, s, api.ErrKey)
			refuses(t, api.Key{N: padded(k.N, 3), E: padded(k.E, 3)}, s, api.ErrKey)
		}
	}
	refuses(t, api.Key{}, nil, api.ErrKey)
}

// P8.3: noughts at the ends of a key's lists count for nothing.
func TestRaiseNoughts(t *testing.T) {
	r := rand.New(rand.NewSource(36))
	for range 60 {
		n, e := odd(r, 368+r.Intn(700)), odd(r, 2+r.Intn(40))
		k, s := keyOf(n, e), inBytes(below(r, n), sizeOf(n))
		want, _ := raiseByWords(n, e, s)
		for _, zeros := range []int{1, 2, 58, 130, 1000} {
			for _, x := range []api.Key{{N: padded(k.N, zeros), E: k.E}, {N: k.N, E: padded(k.E, zeros)}, {N: padded(k.N, zeros), E: padded(k.E, zeros)}} {
				if got, err := rsa.Raise(x, s); err != api.OK || !bytes.Equal(got, want) {
					t.Fatalf("Raise with %d noughts: %x, error %d, want %x", zeros, got, err, want)
				}
				refuses(t, x, s[1:], api.ErrSize)
				refuses(t, x, append([]byte{0}, s...), api.ErrSize)
			}
		}
	}
}

// The chapter's examples of Raise.
func TestRaiseExamples(t *testing.T) {
	k := example()
	for _, x := range []struct{ in, want []byte }{{make([]byte, 64), make([]byte, 64)}, {append(make([]byte, 63), 2), append(make([]byte, 63), 8)}} {
		if b, e := rsa.Raise(k, x.in); e != api.OK || !bytes.Equal(b, x.want) {
			t.Errorf("Raise(K, %x): %x, error %d", x.in, b, e)
		}
	}
	refuses(t, k, make([]byte, 63), api.ErrSize)
	refuses(t, k, bytes.Repeat([]byte{0xFF}, 64), api.ErrSize)
}
