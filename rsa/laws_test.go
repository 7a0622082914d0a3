package rsa_test

import (
	"bytes"
	"crypto"
	library "crypto/rsa"
	"crypto/sha1"
	"math/big"
	"math/rand"
	"testing"

	"vouch/api"
	"vouch/rsa"
)

// P8.6: a signature by the rule is verified: of many keys, of one prime and of more.
func TestRule(t *testing.T) {
	r := rand.New(rand.NewSource(51))
	for i := range 60 {
		e := []*big.Int{small(3), small(5), small(17), small(65537), plus(power(64), 13), odd(r, 200)}[i%6]
		o := drawOwner(r, 368+r.Intn(200), 1+r.Intn(4), e)
		for range 3 {
			m := drawn(r, r.Intn(130))
			verifies(t, o.key(), m, o.sign(m), api.OK)
		}
	}
}

// P8.6: the library tells the same of keys that it takes, and verifies the same.
func TestLibrary(t *testing.T) {
	r := rand.New(rand.NewSource(52))
	for _, o := range []owner{drawOwner(r, 1024, 2, small(3)), drawOwner(r, 1025, 2, small(65537)), drawOwner(r, 1032, 2, small(17)), drawOwner(r, 2048, 8, small(65537)), drawOwner(r, 4096, 16, small(3))} {
		public := &library.PublicKey{N: o.n, E: int(o.e.Int64())}
		for range 40 {
			m := drawn(r, r.Intn(200))
			digest := sha1.Sum(m)
			s := o.sign(m)
			switch r.Intn(5) {
			case 0:
				s = turned(s, r.Intn(8*len(s)))
			case 1:
				s = inBytes(below(r, o.n), len(s))
			case 2:
				s = s[r.Intn(2):]
			}
			err := library.VerifyPKCS1v15(public, crypto.SHA1, digest[:], s)
			if e := rsa.Verify(o.key(), m, s); (e == api.OK) != (err == nil) {
				t.Fatalf("N %x, E %d, %x: error %d, and the library's %v", o.n, o.e, s, e, err)
			}
		}
	}
}

// P8.6: of N's that are products of unlike primes no other signature is verified: not a near one, nor one that is the same modulo a prime.
func TestNoOther(t *testing.T) {
	r := rand.New(rand.NewSource(53))
	for _, o := range []owner{drawOwner(r, 368, 1, small(3)), drawOwner(r, 376, 2, small(3)), drawOwner(r, 400, 8, small(5)), drawOwner(r, 513, 3, small(65537))} {
		m := drawn(r, 50)
		s := o.sign(m)
		a := new(big.Int).SetBytes(s)
		none := func(b *big.Int) {
			t.Helper()
			if b.Mod(b, o.n); b.Cmp(a) != 0 {
				verifies(t, o.key(), m, inBytes(b, o.size()), api.ErrSign)
			}
		}
		for i := int64(-300); i <= 300; i++ {
			none(plus(a, i))
			none(times(a, small(i)))
			for _, p := range o.primes {
				none(new(big.Int).Add(a, times(p, small(i))))
				none(new(big.Int).Add(a, times(p, below(r, o.n))))
			}
		}
		for range 1000 {
			none(below(r, o.n))
		}
		verifies(t, o.key(), m, s, api.OK)
	}
}

// P8.6: no two numbers below N are raised to the same one: each is the root of its power.
func TestThereAndBack(t *testing.T) {
	r := rand.New(rand.NewSource(54))
	for _, o := range owners(r) {
		for range 8 {
			a := below(r, o.n)
			b, e := rsa.Raise(o.key(), inBytes(a, o.size()))
			if e != api.OK || len(b) != o.size() || !bytes.Equal(o.root(new(big.Int).SetBytes(b)), inBytes(a, o.size())) {
				t.Fatalf("N %x, E %x: Raise of %x is %x, error %d", o.n, o.e, a, b, e)
			}
			if b, e = rsa.Raise(o.key(), o.root(a)); e != api.OK || !bytes.Equal(b, inBytes(a, o.size())) {
				t.Fatalf("N %x, E %x: Raise of the root of %x is %x, error %d", o.n, o.e, a, b, e)
			}
		}
	}
}

// P8.6: what is verified is so under a key with noughts at its lists' ends, too, and what is not, is not.
func TestNoughts(t *testing.T) {
	r := rand.New(rand.NewSource(55))
	for _, o := range owners(r) {
		k, m := o.key(), drawn(r, 30)
		s := o.sign(m)
		for _, zeros := range []int{1, 2, 7, 64, 129, 500} {
			for _, x := range []api.Key{{N: padded(k.N, zeros), E: k.E}, {N: k.N, E: padded(k.E, zeros)}, {N: padded(k.N, zeros), E: padded(k.E, 2*zeros)}} {
				checks(t, x, api.OK)
				verifies(t, x, m, s, api.OK)
				verifies(t, x, m[1:], s, api.ErrSign)
				verifies(t, x, m, s[1:], api.ErrSize)
				verifies(t, x, m, append([]byte{0}, s...), api.ErrSize)
			}
		}
	}
}

// P8.5: what is raised to the encoding is verified, also where N is a prime's power.
func TestPower(t *testing.T) {
	r := rand.New(rand.NewSource(58))
	for _, e := range []*big.Int{small(3), small(65537)} {
		p := primeFrom(r, e, power(191), power(192))
		n := times(p, p)
		d := new(big.Int).ModInverse(e, times(p, plus(p, -1)))
		o := owner{n: n, e: e, d: d}
		for range 20 {
			m := drawn(r, 10)
			s := o.sign(m)
			verifies(t, o.key(), m, s, api.OK)
			verifies(t, o.key(), m, turned(s, 5), api.ErrSign)
		}
		raises(t, n, e, inBytes(p, sizeOf(n))) // a multiple of N
		raises(t, n, e, inBytes(times(p, small(12345)), sizeOf(n)))
	}
}

// P8.5: where E has a divisor in common with a prime less 1, a message has no signature or more than one; all that are raised to the encoding are verified.
func TestManyRoots(t *testing.T) {
	r := rand.New(rand.NewSource(56))
	p, three := primeOver(r, 369, 3), small(3)
	k := keyOf(p, three)
	turn := rootOfOne(r, p, three)
	verified := 0
	for range 40 {
		m := drawn(r, 12)
		s := cubeRoot(p, new(big.Int).SetBytes(encodingOf(sha1.Sum(m), sizeOf(p))))
		if s == nil {
			continue
		}
		for range 3 {
			verified++
			verifies(t, k, m, inBytes(s, sizeOf(p)), api.OK)
			verifies(t, k, append(m, 1), inBytes(s, sizeOf(p)), api.ErrSign)
			s.Mul(s, turn).Mod(s, p)
		}
	}
	if verified < 9 {
		t.Errorf("%d were verified", verified)
	}
}

// primeOver is a prime of so many bits that leaves 1 over n, and less 1 is no multiple of n times n.
func primeOver(r *rand.Rand, bits int, n int64) *big.Int {
	for {
		p := odd(r, bits)
		less := plus(p, -1)
		if new(big.Int).Mod(less, small(n)).Sign() == 0 && new(big.Int).Mod(less, small(n*n)).Sign() != 0 && p.ProbablyPrime(5) {
			return p
		}
	}
}

// rootOfOne is a number other than 1 whose power by e is 1 modulo a prime, less 1 a multiple of e.
func rootOfOne(r *rand.Rand, p, e *big.Int) *big.Int {
	for {
		if a := new(big.Int).Exp(below(r, p), over(plus(p, -1), e), p); a.Cmp(small(1)) > 0 {
			return a
		}
	}
}

// cubeRoot is a number whose third power is a modulo a prime, less 1 a multiple of 3 and not of 9; nil if there is none.
func cubeRoot(p, a *big.Int) *big.Int {
	third := over(plus(p, -1), small(3))
	if new(big.Int).Exp(a, third, p).Cmp(small(1)) != 0 {
		return nil
	}
	return new(big.Int).Exp(a, new(big.Int).ModInverse(small(3), third), p)
}

// What a call answers hangs on its arguments alone: asked again, behind calls that were refused, it is the same.
func TestAgain(t *testing.T) {
	r := rand.New(rand.NewSource(57))
	all := owners(r)
	for range 3 {
		for _, o := range all {
			m := drawn(r, 20)
			s := o.sign(m)
			verifies(t, o.key(), m, s, api.OK)
			verifies(t, o.key(), m[1:], s, api.ErrSign)
			rsa.Raise(o.key(), s[1:])
			rsa.Raise(api.Key{}, s)
			rsa.Encoded([20]byte{1}, 513)
			raises(t, o.n, o.e, s)
			encodes(t, sha1.Sum(m), o.size())
			verifies(t, o.key(), m, s, api.OK)
		}
	}
}
