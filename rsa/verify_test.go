package rsa_test

import (
	"bytes"
	"crypto/md5"
	"crypto/sha1"
	"crypto/sha256"
	"encoding/hex"
	"math/big"
	"math/rand"
	"slices"
	"testing"

	"vouch/api"
	"vouch/rsa"
)

// messages are messages of lengths about those at which SHA-1 begins a block.
func messages(r *rand.Rand) [][]byte {
	list := [][]byte{nil, {}, {0}, []byte("abc"), []byte(exampleMessage)}
	for _, n := range []int{54, 55, 56, 57, 63, 64, 65, 119, 120, 128, 1000, 65536} {
		list = append(list, drawn(r, n))
	}
	return list
}

// P8.5: a signature by the rule is verified, for its own message and under its own key.
func TestVerify(t *testing.T) {
	r := rand.New(rand.NewSource(41))
	all := owners(r)
	for i, o := range all {
		for _, m := range messages(r) {
			s := o.sign(m)
			verifies(t, o.key(), m, s, api.OK)
			verifies(t, o.key(), append(slices.Clone(m), 0), s, api.ErrSign)
			if len(m) > 0 {
				verifies(t, o.key(), m[1:], s, api.ErrSign)
				verifies(t, o.key(), turned(m, r.Intn(8*len(m))), s, api.ErrSign)
				verifies(t, o.key(), nil, s, api.ErrSign)
			}
		}
		other, s := all[(i+1)%len(all)], o.sign([]byte("m"))
		verifies(t, other.key(), []byte("m"), s, want(other, s))
	}
}

// P8.5: a signature that is right under another key of the same size is none: it is refused as any other.
func TestVerifyOtherKey(t *testing.T) {
	r := rand.New(rand.NewSource(42))
	for _, bits := range []int{368, 369, 512} {
		one, two := drawOwner(r, bits, 2, small(3)), drawOwner(r, bits, 2, small(3))
		met := map[api.Errno]int{}
		for range 60 {
			m := drawn(r, r.Intn(80))
			s := one.sign(m)
			met[want(two, s)]++
			verifies(t, two.key(), m, s, want(two, s))
			verifies(t, one.key(), m, s, api.OK)
		}
		if met[api.ErrSign] == 0 {
			t.Errorf("%d bits: %v", bits, met)
		}
		five, ok := ownerOf(small(5), one.primes...)
		if m := drawn(r, 20); ok {
			verifies(t, five.key(), m, one.sign(m), api.ErrSign)
			verifies(t, five.key(), m, five.sign(m), api.OK)
		}
	}
}

// P8.5: no bit of a signature or of a message may be turned.
func TestVerifyTurned(t *testing.T) {
	r := rand.New(rand.NewSource(43))
	for _, o := range []owner{drawOwner(r, 368, 2, small(3)), drawOwner(r, 385, 2, small(65537)), drawOwner(r, 512, 2, small(3))} {
		m := drawn(r, 40)
		s, top := o.sign(m), inBytes(o.n, o.size())
		for i := range 8 * len(s) {
			bad, want := turned(s, i), api.ErrSign
			if bytes.Compare(bad, top) >= 0 {
				want = api.ErrSize
			}
			verifies(t, o.key(), m, bad, want)
		}
		for i := range 8 * len(m) {
			verifies(t, o.key(), turned(m, i), s, api.ErrSign)
		}
		verifies(t, o.key(), m, s, api.OK)
	}
}

// P8.5: a signature of another size is refused as Raise refuses it, also where the number is the right one.
func TestVerifySizes(t *testing.T) {
	r := rand.New(rand.NewSource(44))
	for _, o := range owners(r) {
		m := drawn(r, 20)
		s := o.sign(m)
		for _, bad := range [][]byte{nil, {}, s[1:], s[:len(s)-1], append([]byte{0}, s...), append(slices.Clone(s), 0), bytes.Repeat(s, 2), bytes.Repeat([]byte{0xFF}, len(s)), inBytes(o.n, len(s))} {
			verifies(t, o.key(), m, bad, api.ErrSize)
		}
		for _, a := range []*big.Int{small(0), small(1), plus(o.n, -1)} {
			verifies(t, o.key(), m, inBytes(a, len(s)), api.ErrSign)
		}
		if a := new(big.Int).Add(new(big.Int).SetBytes(s), o.n); sizeOf(a) == len(s) { // the same modulo N
			verifies(t, o.key(), m, a.Bytes(), api.ErrSize)
		}
	}
}

// shortRoot is the signature of a message that is so small that noughts stand ahead of it.
func shortRoot(r *rand.Rand, o owner) ([]byte, []byte) {
	for {
		m := drawn(r, 8)
		if s := o.sign(m); s[0] == 0 {
			return m, s
		}
	}
}

// P8.5: noughts ahead of a signature belong to it.
func TestVerifyNoughtsAhead(t *testing.T) {
	r := rand.New(rand.NewSource(45))
	for _, o := range []owner{drawOwner(r, 368, 2, small(3)), drawOwner(r, 369, 2, small(3)), drawOwner(r, 512, 2, small(5))} {
		m, s := shortRoot(r, o)
		verifies(t, o.key(), m, s, api.OK)
		verifies(t, o.key(), m, s[1:], api.ErrSize)
		verifies(t, o.key(), m, append(s[1:len(s):len(s)], 0), want(o, append(s[1:len(s):len(s)], 0)))
	}
}

// want tells what Verify answers of a signature that is no message's.
func want(o owner, s []byte) api.Errno {
	if _, e := raiseByWords(o.n, o.e, s); e != api.OK {
		return e
	}
	return api.ErrSign
}

// P8.5: what is nearly the encoding is not the encoding: each bit counts, and what stands where.
func TestVerifyNearly(t *testing.T) {
	r := rand.New(rand.NewSource(46))
	for _, o := range []owner{drawOwner(r, 368, 2, small(3)), drawOwner(r, 512, 2, small(3)), drawOwner(r, 1024, 4, small(65537))} {
		m := drawn(r, 30)
		digest := sha1.Sum(m)
		size := o.size()
		right := encodingOf(digest, size)
		verifies(t, o.key(), m, o.root(new(big.Int).SetBytes(right)), api.OK)
		for i := range 8 * size {
			nearly(t, o, m, turned(right, i))
		}
		for _, b := range lookalikes(r, m, size) {
			nearly(t, o, m, b)
		}
		nearly(t, o, m, append(right[1:len(right):len(right)], 0))
	}
}

// nearly: the signature that is raised to a number is none.
func nearly(t *testing.T, o owner, m, b []byte) {
	t.Helper()
	if n := new(big.Int).SetBytes(b); n.Cmp(o.n) < 0 {
		verifies(t, o.key(), m, o.root(n), api.ErrSign)
	}
}

// lookalikes are what other rules than the chapter's, or none, lay in so many bytes for a message.
func lookalikes(r *rand.Rand, m []byte, size int) [][]byte {
	one, two, five := sha1.Sum(m), sha256.Sum256(m), md5.Sum(m)
	other := sha1.Sum(append([]byte{1}, m...))
	digest := slices.Concat(fixedPart, one[:])
	bare := slices.Concat([]byte{0x30, 0x1F, 0x30, 0x07}, fixedPart[4:11], []byte{0x04, 0x14}, one[:])
	md := slices.Concat(unhexed("3020300c06082a864886f70d020505000410"), five[:])
	long := slices.Concat(unhexed("3031300d060960864801650304020105000420"), two[:])
	list := [][]byte{filled(1, 0xFF, size, bare), filled(1, 0xFF, size, md), filled(1, 0xFF, size, one[:]), filled(1, 0xFF, size, slices.Concat(fixedPart, other[:])),
		filled(2, 0xFF, size, digest), filled(0, 0x00, size, digest), filled(1, 0x00, size, digest), filled(2, 0x55, size, digest), filled(1, 0xFE, size, digest),
		make([]byte, size), inBytes(new(big.Int).SetBytes(one[:]), size), inBytes(new(big.Int).SetBytes(digest), size)}
	if size > 70 {
		list = append(list, filled(1, 0xFF, size, long))
	}
	for behind := 1; behind < size-45; behind++ { // a shorter filling, and something behind the digest
		list = append(list, slices.Concat(encodingOf(one, size-behind), drawn(r, behind)), slices.Concat(encodingOf(one, size-behind), make([]byte, behind)))
	}
	return list
}

func unhexed(s string) []byte {
	b, _ := hex.DecodeString(s)
	return b
}

// filled is 00, a kind, as many bytes as fill up, 00, and what comes last.
func filled(kind, filler byte, size int, last []byte) []byte {
	return slices.Concat([]byte{0, kind}, bytes.Repeat([]byte{filler}, size-3-len(last)), []byte{0}, last)
}

// P8.5: Verify is what Raise and the encoding tell, of any signature and of any key that may be.
func TestVerifyByWords(t *testing.T) {
	r := rand.New(rand.NewSource(47))
	for range 400 {
		n, e := odd(r, 368+r.Intn(60)), odd(r, 2+r.Intn(30))
		m, s := drawn(r, r.Intn(70)), inBytes(below(r, n), sizeOf(n))
		if r.Intn(4) == 0 {
			s = drawn(r, len(s)-1+r.Intn(3))
		}
		raised, want := raiseByWords(n, e, s)
		if want == api.OK && !bytes.Equal(raised, encodingOf(sha1.Sum(m), sizeOf(n))) {
			want = api.ErrSign
		}
		verifies(t, keyOf(n, e), m, s, want)
	}
}

// The chapter's examples of Check, Size, Encoded and Verify.
func TestExamples(t *testing.T) {
	k, n := example(), hexNumber(exampleN)
	s := unhexed(exampleSignature)
	checks(t, k, api.OK)
	for _, bad := range [][2]*big.Int{{small(15), small(3)}, {plus(n, -1), small(3)}, {n, small(1)}, {n, small(4)}, {n, n}} {
		checks(t, keyOf(bad[0], bad[1]), api.ErrKey)
	}
	if a, b, c := rsa.Size(k), rsa.Size(api.Key{}), rsa.Size(api.Key{N: []uint64{256}}); a != 64 || b != 0 || c != 2 {
		t.Errorf("Size: %d, %d, %d", a, b, c)
	}
	digest := sha1.Sum([]byte(exampleMessage))
	encodes(t, digest, 46)
	encodesNothing(t, 45)
	encodesNothing(t, 513)
	verifies(t, k, []byte(exampleMessage), s, api.OK)
	verifies(t, k, []byte("Vouch"), s, api.ErrSign)
	for i := range 8 * len(s) {
		bad, want := turned(s, i), api.ErrSign
		if new(big.Int).SetBytes(bad).Cmp(n) >= 0 {
			want = api.ErrSize
		}
		verifies(t, k, []byte(exampleMessage), bad, want)
	}
}
