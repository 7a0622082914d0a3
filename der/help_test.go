package der_test

import (
	"bytes"
	"encoding/asn1"
	"encoding/binary"
	"math"
	"math/big"
	"math/rand"
	"slices"
	"testing"

	"vouch/api"
	"vouch/der"
)

const (
	ones     = math.MaxUint64
	mostBits = 64 * api.MaxLimbs // of a number
	keyBits  = api.MaxKey        // of a key's number
)

// listOf is the list of a number of the library's, in its form.
func listOf(n *big.Int) []uint64 {
	b := n.FillBytes(make([]byte, (n.BitLen()+63)/64*8))
	list := make([]uint64, len(b)/8)
	for i := range list {
		list[i] = binary.BigEndian.Uint64(b[len(b)-8*(i+1):])
	}
	return list
}

// bigOf is the number of a list, by the library.
func bigOf(a []uint64) *big.Int {
	n := new(big.Int)
	for _, x := range slices.Backward(a) {
		n.Lsh(n, 64).Or(n, new(big.Int).SetUint64(x))
	}
	return n
}

func small(n int64) *big.Int { return big.NewInt(n) }

func power(n int) *big.Int { return new(big.Int).Lsh(big.NewInt(1), uint(n)) }

func plus(n *big.Int, by int64) *big.Int { return new(big.Int).Add(n, big.NewInt(by)) }

// padded is a list with n 0s behind it.
func padded(a []uint64, n int) []uint64 {
	return append(slices.Clone(a), make([]uint64, n)...)
}

// number is a number of exactly so many bits.
func number(r *rand.Rand, bits int) *big.Int {
	n := new(big.Int)
	if bits > 0 {
		n.Rand(r, power(bits-1))
		n.Or(n, power(bits-1))
	}
	return n
}

func drawn(r *rand.Rand, n int) []byte {
	b := make([]byte, n)
	r.Read(b)
	return b
}

// numbers are numbers of a key at which something begins or ends: a byte, a limb, an item's length in its bytes, what a key's number may be.
func numbers() []*big.Int {
	list := []*big.Int{small(0), small(1), small(2), small(3), small(5), small(65537)}
	for _, bits := range []int{7, 8, 15, 16, 24, 63, 64, 65, 127, 128, 1008, 1015, 1016, 1023, 1024, 2032, 2039, 2040, 2047, 2048, keyBits - 9, keyBits - 8, keyBits - 1, keyBits} {
		list = append(list, plus(power(bits), -1))
		if bits < keyBits {
			list = append(list, power(bits), plus(power(bits), 1))
		}
	}
	return list
}

// lengthOf is a length as short as it can be, by the chapter's words.
func lengthOf(n uint64) []byte {
	b := new(big.Int).SetUint64(n).Bytes()
	if n < 0x80 {
		return []byte{byte(n)}
	}
	return append([]byte{0x80 + byte(len(b))}, b...)
}

// lengthIn is a length behind a first byte that tells of n bytes more, be it as short as it can be or not.
func lengthIn(n int, length uint64) []byte {
	return append([]byte{0x80 + byte(n)}, new(big.Int).SetUint64(length).FillBytes(make([]byte, n))...)
}

// laid is an item whose content is made of pieces.
func laid(tag byte, pieces ...[]byte) []byte {
	content := slices.Concat(pieces...)
	return slices.Concat([]byte{tag}, lengthOf(uint64(len(content))), content)
}

// itemByWords is what the chapter's words say of Item: a length is held against the shortest one of its worth.
func itemByWords(b []byte, at int) (byte, int, int, api.Errno) {
	if at < 0 || at > len(b) {
		return 0, 0, 0, api.ErrArg
	}
	rest := b[at:]
	if len(rest) < 2 {
		return 0, 0, 0, api.ErrShort
	}
	written, worth := rest[1:2], rest[1:2]
	if rest[1] == 0x80 || rest[1] > 0x84 {
		return 0, 0, 0, api.ErrLength
	}
	if rest[1] > 0x80 {
		end := 2 + int(rest[1]&0x0f)
		if len(rest) < end {
			return 0, 0, 0, api.ErrShort
		}
		written, worth = rest[1:end], rest[2:end]
	}
	length := new(big.Int).SetBytes(worth)
	if !bytes.Equal(written, lengthOf(length.Uint64())) {
		return 0, 0, 0, api.ErrLength
	}
	behind := rest[1+len(written):]
	if length.Cmp(small(int64(len(behind)))) > 0 {
		return 0, 0, 0, api.ErrShort
	}
	from := len(b) - len(behind)
	return rest[0], from, from + int(length.Int64()), api.OK
}

// integerByWords is what the chapter's words say of Integer; what is an integer's content the library tells.
func integerByWords(b []byte) (*big.Int, api.Errno) {
	n := new(big.Int)
	if _, err := asn1.Unmarshal(laid(0x02, b), &n); err != nil || n.Sign() < 0 {
		return nil, api.ErrInteger
	}
	if n.BitLen() > keyBits {
		return nil, api.ErrLimit
	}
	return n, api.OK
}

// keyByWords is what the chapter's words say of Decode.
func keyByWords(b []byte) ([]*big.Int, api.Errno) {
	tag, from, to, e := itemByWords(b, 0)
	switch {
	case e != api.OK:
		return nil, e
	case tag != 0x30:
		return nil, api.ErrTag
	case to != len(b):
		return nil, api.ErrLong
	}
	b = b[from:]
	var key []*big.Int
	for range 2 {
		tag, from, to, e := itemByWords(b, 0)
		if e != api.OK {
			return nil, e
		}
		if tag != 0x02 {
			return nil, api.ErrTag
		}
		n, e := integerByWords(b[from:to])
		if e != api.OK {
			return nil, e
		}
		key, b = append(key, n), b[to:]
	}
	if len(b) > 0 {
		return nil, api.ErrLong
	}
	return key, api.OK
}

// bytesOf is a key's bytes, by the library.
func bytesOf(t *testing.T, n, e *big.Int) []byte {
	t.Helper()
	b, err := asn1.Marshal(struct{ N, E *big.Int }{n, e})
	if err != nil {
		t.Fatal(err)
	}
	return b
}

func keyOf(n, e *big.Int) api.Key { return api.Key{N: listOf(n), E: listOf(e)} }

// inForm: a list ends in no 0.
func inForm(a []uint64) bool { return len(a) == 0 || a[len(a)-1] > 0 }

// isNumber: a list is a number, in its form.
func isNumber(a []uint64, n *big.Int) bool { return inForm(a) && bigOf(a).Cmp(n) == 0 }

// item holds Item against the chapter's words, and tells its error.
func item(t *testing.T, b []byte, at int) api.Errno {
	t.Helper()
	tag, from, to, e := der.Item(b, at)
	tag1, from1, to1, e1 := itemByWords(b, at)
	if tag != tag1 || from != from1 || to != to1 || e != e1 {
		t.Fatalf("Item(%.40x of %d bytes, %d): %02x, %d, %d, error %d, want %02x, %d, %d, error %d", b, len(b), at, tag, from, to, e, tag1, from1, to1, e1)
	}
	return e
}

// integer holds Integer against the chapter's words, and tells its error.
func integer(t *testing.T, b []byte) api.Errno {
	t.Helper()
	got, e := der.Integer(b)
	want, e1 := integerByWords(b)
	if e != e1 || e != api.OK && len(got) > 0 || e == api.OK && !isNumber(got, want) {
		t.Fatalf("Integer(%.40x of %d bytes): %x, error %d, want %x, error %d", b, len(b), got, e, want, e1)
	}
	return e
}

// decode holds Decode against the chapter's words, and tells its error.
func decode(t *testing.T, b []byte) api.Errno {
	t.Helper()
	got, e := der.Decode(b)
	want, e1 := keyByWords(b)
	if e != e1 || e != api.OK && (len(got.N) > 0 || len(got.E) > 0) {
		t.Fatalf("Decode(%.40x of %d bytes): %x, error %d, want %x, error %d", b, len(b), got, e, want, e1)
	}
	if e == api.OK && !(isNumber(got.N, want[0]) && isNumber(got.E, want[1])) {
		t.Fatalf("Decode(%.40x of %d bytes): %x, want %x", b, len(b), got, want)
	}
	if e == api.OK && !bytes.Equal(b, bytesOf(t, want[0], want[1])) {
		t.Fatalf("Decode(%.40x of %d bytes) reads what the library does not tell", b, len(b))
	}
	return e
}

// fails holds an error against the one that is meant.
func fails(t *testing.T, what string, got, want api.Errno) {
	t.Helper()
	if got != want {
		t.Fatalf("%s: error %d, want %d", what, got, want)
	}
}

// all tells all lists of n bytes of some.
func all(bytes []byte, n int, yield func([]byte)) {
	if n == 0 {
		yield(nil)
		return
	}
	all(bytes, n-1, func(b []byte) {
		for _, c := range bytes {
			yield(append(b[:n-1:n-1], c))
		}
	})
}
