package der_test

import (
	"math/big"
	"math/rand"
	"slices"
	"testing"

	"vouch/api"
	"vouch/der"
)

// contentOf is a number as an integer's content.
func contentOf(n *big.Int) []byte {
	b := n.Bytes()
	if len(b) == 0 || b[0] > 0x7f {
		b = slices.Concat([]byte{0}, b)
	}
	return b
}

// isRead: Integer tells just this number.
func isRead(t *testing.T, b []byte, want *big.Int) {
	t.Helper()
	if got, e := der.Integer(b); e != api.OK || !isNumber(got, want) {
		t.Fatalf("Integer(%.40x of %d bytes): %x, error %d, want %x", b, len(b), got, e, want)
	}
}

// isNone: Integer tells just this error.
func isNone(t *testing.T, b []byte, want api.Errno) {
	t.Helper()
	if got, e := der.Integer(b); e != want || len(got) > 0 {
		t.Fatalf("Integer(%.40x of %d bytes): %x, error %d, want error %d and nothing", b, len(b), got, e, want)
	}
}

// The chapter's examples of Integer.
func TestExamplesOfInteger(t *testing.T) {
	for _, b := range [][]byte{nil, {}, {0x80}, {0x00, 0x7f}} {
		isNone(t, b, api.ErrInteger)
	}
	isRead(t, []byte{0x00, 0x80}, small(128))
	isRead(t, []byte{0x00}, small(0))
}

// P7.2: all contents of one byte and of two, and of three and four those that are looked at.
func TestFewContents(t *testing.T) {
	for high := range 256 {
		if integer(t, []byte{byte(high)}) == api.OK != (high < 0x80) {
			t.Fatalf("Integer(%02x)", high)
		}
		for low := range 256 {
			b := []byte{byte(high), byte(low)}
			may := high > 0 && high < 0x80 || high == 0 && low >= 0x80
			if integer(t, b) == api.OK != may {
				t.Fatalf("Integer(%x)", b)
			}
		}
	}
	for n := range 6 {
		all([]byte{0x00, 0x01, 0x7f, 0x80, 0x81, 0xff}, n, func(b []byte) { integer(t, b) })
	}
}

// P7.2: numbers of all sizes up to the greatest, and about each; with a 0 ahead, where it need not be there, and without one, where it must.
func TestIntegers(t *testing.T) {
	r := rand.New(rand.NewSource(131))
	for bits := range keyBits + 1 {
		list := []*big.Int{number(r, bits)}
		if bits%8 < 2 || bits%64 > 61 {
			list = append(list, plus(power(bits), -1), power(max(bits, 1)-1))
		}
		for _, n := range list {
			b := contentOf(n)
			isRead(t, b, n)
			isNone(t, slices.Concat([]byte{0}, b), api.ErrInteger)
			isNone(t, slices.Concat([]byte{0, 0}, b), api.ErrInteger)
			if len(b) > 1 && b[0] == 0 {
				isNone(t, b[1:], api.ErrInteger)
			}
		}
	}
}

// P7.2: numbers of 4096 bits and of one more, and those that no natural number is any more.
func TestGreatIntegers(t *testing.T) {
	for _, n := range []*big.Int{power(keyBits - 1), plus(power(keyBits), -1), plus(power(keyBits), -2), plus(power(keyBits-8), -1), power(keyBits - 8)} {
		isRead(t, contentOf(n), n)
	}
	r := rand.New(rand.NewSource(132))
	great := []*big.Int{power(keyBits), plus(power(keyBits), 1), plus(power(keyBits+1), -1), plus(power(mostBits), -1), power(mostBits), plus(power(mostBits), 1)}
	for _, bits := range []int{keyBits + 1, keyBits + 2, keyBits + 7, keyBits + 8, keyBits + 9, keyBits + 64, mostBits - 1, mostBits, mostBits + 1, mostBits + 8, 8 * 65536} {
		great = append(great, number(r, bits))
	}
	for _, n := range great {
		isNone(t, contentOf(n), api.ErrLimit)
	}
}

// P7.2: what is no integer's content is told ahead of what is too great.
func TestNoContentAndTooGreat(t *testing.T) {
	for _, n := range []int{513, 514, 600, 1024, 1025, 1026, 5000} {
		b := slices.Repeat([]byte{0xff}, n)
		isNone(t, b, api.ErrInteger)
		b[0] = 0x80
		isNone(t, b, api.ErrInteger)
		b[0], b[1] = 0, 0x7f
		isNone(t, b, api.ErrInteger)
		b[1] = 0
		isNone(t, b, api.ErrInteger)
		isNone(t, make([]byte, n), api.ErrInteger)
		b[0] = 1
		isNone(t, b, api.ErrLimit)
		b[0], b[1] = 0, 0x80
		if n > 513 {
			isNone(t, b, api.ErrLimit)
		} else {
			isRead(t, b, new(big.Int).SetBytes(b))
		}
	}
}

// P7.2: drawn contents.
func TestDrawnContents(t *testing.T) {
	r := rand.New(rand.NewSource(133))
	for range 10000 {
		b := drawn(r, r.Intn(30))
		for i := range min(3, len(b)) {
			if r.Intn(2) == 0 {
				b[i] = []byte{0x00, 0x7f, 0x80}[r.Intn(3)]
			}
		}
		integer(t, b)
	}
	for range 300 {
		b := drawn(r, 500+r.Intn(30))
		b[0] &= 1
		integer(t, b)
	}
}
