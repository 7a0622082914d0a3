package rsa_test

import (
	"bytes"
	"crypto/sha1"
	"encoding/binary"
	"math/big"
	"math/rand"
	"slices"
	"testing"

	"vouch/api"
	"vouch/rsa"
)

// The key of the chapter's examples has this N (512 bits) and E 3; the signature is its owner's, of this message.
const (
	exampleN         = "d548544978a25cc720cd9d5e95764f47466f3e4c482c9f0483d5f0413a1049a01fa3e404e70963aab23189b28d811e9fbf21c33b374b81381a93b48c5060d3e5"
	exampleMessage   = "vouch"
	exampleSignature = "19f7ac428d3c9d58635f67094982b9bfd5b61fcb257b8843f0786cc4e2e62b50ced0b04886d0eadbd1b18cbeb3902cb20a6f6c3714644648d5a5a620de4a6d8f"
)

// fixedPart stands ahead of a digest of SHA-1 in its encoding.
var fixedPart = []byte{0x30, 0x21, 0x30, 0x09, 0x06, 0x05, 0x2B, 0x0E, 0x03, 0x02, 0x1A, 0x05, 0x00, 0x04, 0x14}

// owner is a key with what only its owner knows: the primes, and D.
type owner struct {
	n, e, d *big.Int
	primes  []*big.Int
}

func (o owner) key() api.Key { return keyOf(o.n, o.e) }

// size is how many bytes the key's N has, by the library.
func (o owner) size() int { return sizeOf(o.n) }

// root tells the signature by which a number is raised to, in as many bytes as N has.
func (o owner) root(n *big.Int) []byte {
	return inBytes(new(big.Int).Exp(n, o.d, o.n), o.size())
}

// sign tells a message's signature by the rule.
func (o owner) sign(message []byte) []byte {
	return o.root(new(big.Int).SetBytes(encodingOf(sha1.Sum(message), o.size())))
}

// ownerOf tells the owner of a key with these primes (unlike ones); false where there is no D.
func ownerOf(e *big.Int, primes ...*big.Int) (owner, bool) {
	o := owner{n: small(1), e: e, primes: primes}
	order := small(1) // a multiple of each prime less 1
	for _, p := range primes {
		o.n.Mul(o.n, p)
		order.Mul(order, plus(p, -1))
	}
	o.d = new(big.Int).ModInverse(e, order)
	return o, o.d != nil
}

// drawOwner tells an owner whose key's N has exactly so many bits and is a product of so many unlike primes.
func drawOwner(r *rand.Rand, bits, primes int, e *big.Int) owner {
	n, list := small(1), []*big.Int{}
	for len(list) < primes-1 {
		p := primeFrom(r, e, power(bits/primes-1), power(bits/primes))
		if !slices.ContainsFunc(list, func(q *big.Int) bool { return q.Cmp(p) == 0 }) {
			n, list = times(n, p), append(list, p)
		}
	}
	last := primeFrom(r, e, plus(over(power(bits-1), n), 1), over(power(bits), n))
	o, ok := ownerOf(e, append(list, last)...)
	if !ok || o.n.BitLen() != bits || new(big.Int).Mod(n, last).Sign() == 0 {
		return drawOwner(r, bits, primes, e)
	}
	return o
}

// primeFrom is a prime from one number up to another, less 1 no multiple of what divides e.
func primeFrom(r *rand.Rand, e, from, to *big.Int) *big.Int {
	for {
		p := new(big.Int).Rand(r, new(big.Int).Sub(to, from))
		p.Add(p, from).SetBit(p, 0, 1)
		if new(big.Int).GCD(nil, nil, e, plus(p, -1)).Cmp(small(1)) == 0 && p.ProbablyPrime(5) {
			return p
		}
	}
}

// owners are owners of keys of sizes at which something begins or ends, of two primes and of more.
func owners(r *rand.Rand) []owner {
	return []owner{
		drawOwner(r, 368, 2, small(3)), drawOwner(r, 369, 2, small(65537)), drawOwner(r, 375, 3, small(5)), drawOwner(r, 376, 2, small(3)),
		drawOwner(r, 384, 1, small(3)), drawOwner(r, 385, 4, small(17)), drawOwner(r, 512, 2, small(3)), drawOwner(r, 513, 2, small(3)),
		drawOwner(r, 521, 2, odd(r, 400)), drawOwner(r, 768, 12, small(7)), drawOwner(r, 1024, 2, small(65537)), drawOwner(r, 1031, 4, small(3)),
		drawOwner(r, 2048, 8, small(65537)), drawOwner(r, 4089, 20, small(3)), drawOwner(r, 4096, 16, small(65537)),
	}
}

// example is the key of the chapter's examples.
func example() api.Key { return keyOf(hexNumber(exampleN), small(3)) }

func hexNumber(s string) *big.Int {
	n, _ := new(big.Int).SetString(s, 16)
	return n
}

// encodingOf is what the chapter's words say of a digest's encoding.
func encodingOf(digest [20]byte, n int) []byte {
	return slices.Concat([]byte{0x00, 0x01}, bytes.Repeat([]byte{0xFF}, n-38), []byte{0x00}, fixedPart, digest[:])
}

// sizeOf is how many bytes a number has.
func sizeOf(n *big.Int) int { return len(n.Bytes()) }

// inBytes is a number in n bytes.
func inBytes(a *big.Int, n int) []byte { return a.FillBytes(make([]byte, n)) }

// mayBe is what the chapter's words say of a key.
func mayBe(n, e *big.Int) bool {
	return n.Bit(0) == 1 && n.BitLen() >= 368 && n.BitLen() <= 4096 && e.Bit(0) == 1 && e.Cmp(small(3)) >= 0 && e.Cmp(n) < 0
}

// raiseByWords is what the chapter's words say of Raise; the power the library tells.
func raiseByWords(n, e *big.Int, s []byte) ([]byte, api.Errno) {
	if !mayBe(n, e) {
		return nil, api.ErrKey
	}
	a := new(big.Int).SetBytes(s)
	if len(s) != sizeOf(n) || a.Cmp(n) >= 0 {
		return nil, api.ErrSize
	}
	return inBytes(a.Exp(a, e, n), sizeOf(n)), api.OK
}

// listOf is the list of a number of the library's, in its form.
func listOf(n *big.Int) []uint64 {
	b := n.FillBytes(make([]byte, (n.BitLen()+63)/64*8))
	list := make([]uint64, len(b)/8)
	for i := range list {
		list[i] = binary.BigEndian.Uint64(b[len(b)-8*(i+1):])
	}
	return list
}

func keyOf(n, e *big.Int) api.Key { return api.Key{N: listOf(n), E: listOf(e)} }

func small(n int64) *big.Int { return big.NewInt(n) }

func power(n int) *big.Int { return new(big.Int).Lsh(big.NewInt(1), uint(n)) }

func plus(n *big.Int, by int64) *big.Int { return new(big.Int).Add(n, big.NewInt(by)) }

func over(a, b *big.Int) *big.Int { return new(big.Int).Div(a, b) }

func times(a, b *big.Int) *big.Int { return new(big.Int).Mul(a, b) }

// padded is a list with n 0s behind it.
func padded(a []uint64, n int) []uint64 {
	return append(slices.Clone(a), make([]uint64, n)...)
}

// number is a number of exactly so many bits.
func number(r *rand.Rand, bits int) *big.Int {
	n := new(big.Int)
	if bits > 0 {
		n.Rand(r, power(bits-1))
		n.Or(n, power(bits-1))
	}
	return n
}

// odd is an odd number of exactly so many bits.
func odd(r *rand.Rand, bits int) *big.Int {
	n := number(r, bits)
	return n.SetBit(n, 0, 1)
}

// below is a number below another, of any length.
func below(r *rand.Rand, n *big.Int) *big.Int {
	a := new(big.Int).Rand(r, n)
	return a.Rsh(a, uint(r.Intn(3)*r.Intn(n.BitLen())/2))
}

func drawn(r *rand.Rand, n int) []byte {
	b := make([]byte, n)
	r.Read(b)
	return b
}

// turned is a list of bytes in which one bit is turned.
func turned(b []byte, bit int) []byte {
	b = slices.Clone(b)
	b[bit/8] ^= 1 << (bit % 8)
	return b
}

// checks holds Check.
func checks(t *testing.T, k api.Key, want api.Errno) {
	t.Helper()
	if e := rsa.Check(k); e != want {
		t.Fatalf("Check(%x): error %d, want %d", k, e, want)
	}
}

// raises holds Raise against the chapter's words, and tells its error.
func raises(t *testing.T, n, e *big.Int, s []byte) api.Errno {
	t.Helper()
	got, err := rsa.Raise(keyOf(n, e), s)
	want, err1 := raiseByWords(n, e, s)
	if err != err1 || !bytes.Equal(got, want) {
		t.Fatalf("Raise(N %x, E %x, %x): %x, error %d, want %x, error %d", n, e, s, got, err, want, err1)
	}
	return err
}

// refuses: Raise and Verify answer this error, and nothing beside it.
func refuses(t *testing.T, k api.Key, s []byte, want api.Errno) {
	t.Helper()
	if b, e := rsa.Raise(k, s); e != want || len(b) > 0 {
		t.Fatalf("Raise(%x, %x): %x, error %d, want error %d", k, s, b, e, want)
	}
	verifies(t, k, []byte("message"), s, want)
}

// verifies holds Verify.
func verifies(t *testing.T, k api.Key, message, s []byte, want api.Errno) {
	t.Helper()
	if e := rsa.Verify(k, message, s); e != want {
		t.Fatalf("Verify(%x, a message of %d bytes, %x): error %d, want %d", k, len(message), s, e, want)
	}
}

// encodes holds Encoded against the chapter's words.
func encodes(t *testing.T, digest [20]byte, size int) {
	t.Helper()
	b, e := rsa.Encoded(digest, size)
	if e != api.OK || !bytes.Equal(b, encodingOf(digest, size)) {
		t.Fatalf("Encoded(%x, %d): %x, error %d", digest, size, b, e)
	}
}
