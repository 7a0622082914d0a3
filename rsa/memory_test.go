package rsa_test

import (
	"bytes"
	"crypto/sha1"
	"math/rand"
	"slices"
	"testing"

	"vouch/api"
	"vouch/rsa"
)

const mark = 0xfeedfacefeedface

// roomy is a list with marked memory behind it.
func roomy(b []byte) []byte {
	return append(slices.Clone(b), bytes.Repeat([]byte{0xA5}, 200)...)[: len(b) : len(b)+200]
}

// roomyLimbs is the same of limbs.
func roomyLimbs(a []uint64) []uint64 {
	return append(slices.Clone(a), slices.Repeat([]uint64{mark}, 8)...)[: len(a) : len(a)+8]
}

// scribble writes over all the memory of a list, what lies behind its length included.
func scribble(b []byte) {
	b = b[:cap(b)]
	for i := range b {
		b[i] ^= 0x5A
	}
}

// scribbleLimbs is the same of limbs.
func scribbleLimbs(a []uint64) {
	a = a[:cap(a)]
	for i := range a {
		a[i] ^= mark
	}
}

// given is what is handed in, with marked memory behind each list.
type given struct {
	k          api.Key
	message, s []byte
}

func roomyGiven(k api.Key, message, s []byte) given {
	return given{api.Key{N: roomyLimbs(k.N), E: roomyLimbs(k.E)}, roomy(message), roomy(s)}
}

// same: two hold the same, what lies behind their lists' lengths included.
func same(a, b given) bool {
	return slices.Equal(a.k.N[:cap(a.k.N)], b.k.N[:cap(b.k.N)]) && slices.Equal(a.k.E[:cap(a.k.E)], b.k.E[:cap(b.k.E)]) &&
		bytes.Equal(a.message[:cap(a.message)], b.message[:cap(b.message)]) && bytes.Equal(a.s[:cap(a.s)], b.s[:cap(b.s)])
}

func (g given) scribble() {
	scribbleLimbs(g.k.N)
	scribbleLimbs(g.k.E)
	scribble(g.message)
	scribble(g.s)
}

// What is handed in is not changed, what lies behind it included, and not kept; be it refused or not.
func TestHandedIn(t *testing.T) {
	r := rand.New(rand.NewSource(61))
	for _, o := range owners(r) {
		m := drawn(r, 40)
		s := o.sign(m)
		for _, sig := range [][]byte{s, turned(s, 3), s[1:], append([]byte{0}, s...), inBytes(o.n, len(s)), nil, make([]byte, len(s))} {
			for _, k := range []api.Key{o.key(), {N: padded(o.key().N, 2), E: padded(o.key().E, 3)}, {N: o.key().N, E: o.key().N}, {}, {N: o.key().N[1:], E: o.key().E}, {N: padded(o.key().N, 70), E: []uint64{4}}} {
				in, before := roomyGiven(k, m, sig), roomyGiven(k, m, sig)
				rsa.Check(in.k)
				rsa.Size(in.k)
				b, e := rsa.Raise(in.k, in.s)
				rsa.Verify(in.k, in.message, in.s)
				if !same(in, before) {
					t.Fatalf("N %x, E %x, %x: what is handed in is changed", k.N, k.E, sig)
				}
				kept := slices.Clone(b)
				in.scribble()
				if !bytes.Equal(b, kept) {
					t.Fatalf("N %x, E %x, %x, error %d: what is handed in is kept", k.N, k.E, sig, e)
				}
			}
		}
	}
}

// One list may be handed in for several.
func TestOneForAll(t *testing.T) {
	r := rand.New(rand.NewSource(62))
	for _, bits := range []int{368, 512, 1024} {
		n := listOf(odd(r, bits))
		both := roomyLimbs(n)
		checks(t, api.Key{N: both, E: both}, api.ErrKey)
		o := drawOwner(r, bits, 2, small(3))
		b := roomy(o.root(small(77)))
		verifies(t, o.key(), b, b, api.ErrSign)
		if !slices.Equal(both, n) || !bytes.Equal(b, o.root(small(77))) {
			t.Error("what is handed in is changed")
		}
	}
}

// What lies behind a list's length does not count, even where it goes on as it should.
func TestBehind(t *testing.T) {
	r := rand.New(rand.NewSource(63))
	for _, o := range owners(r)[:9] {
		m := drawn(r, 60)
		k, s := o.key(), o.sign(m)
		for end := range s {
			verifies(t, k, m, s[:end], api.ErrSize)
		}
		for end := range m {
			verifies(t, k, m[:end], s, api.ErrSign)
		}
		for end := range k.N {
			if got, want := rsa.Size(api.Key{N: k.N[:end]}), rsa.Size(api.Key{N: slices.Clone(k.N[:end])}); got != want {
				t.Fatalf("Size(%x): %d, want %d", k.N[:end], got, want)
			}
		}
		checks(t, api.Key{N: k.N, E: k.E[:0]}, api.ErrKey)
		in := roomyGiven(k, m, s)
		verifies(t, in.k, in.message, in.s, api.OK)
	}
}

// Answers share no memory with one another.
func TestAnswers(t *testing.T) {
	r := rand.New(rand.NewSource(64))
	for _, o := range owners(r) {
		m := drawn(r, 30)
		s, digest := o.sign(m), sha1.Sum(m)
		want := encodingOf(digest, o.size())
		var answers [][]byte
		for range 2 {
			a, _ := rsa.Raise(o.key(), s)
			b, _ := rsa.Encoded(digest, o.size())
			answers = append(answers, a, b)
		}
		for i, a := range answers {
			scribble(a)
			for _, b := range answers[i+1:] {
				if !bytes.Equal(b, want) {
					t.Fatalf("N %x: two answers share memory", o.n)
				}
			}
		}
		raises(t, o.n, o.e, s)
		encodes(t, digest, o.size())
		verifies(t, o.key(), m, s, api.OK)
	}
}
