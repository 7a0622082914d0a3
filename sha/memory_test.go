package sha_test

import (
	"bytes"
	"crypto/sha1"
	"math/rand"
	"slices"
	"testing"

	"vouch/sha"
)

// roomy is a list with marked memory behind it.
func roomy(b []byte) []byte {
	return append(slices.Clone(b), bytes.Repeat([]byte{0xA5}, 200)...)[: len(b) : len(b)+200]
}

// scribble writes over all the memory of a list, what lies behind its length included.
func scribble(b []byte) {
	b = b[:cap(b)]
	for i := range b {
		b[i] ^= 0x5A
	}
}

// Nothing that is handed in is changed, what lies behind it included, nor kept.
func TestMemory(t *testing.T) {
	r := rand.New(rand.NewSource(76))
	for _, n := range edges() {
		b := drawn(r, n)
		given := roomy(b)
		before := slices.Clone(given[:cap(given)])
		h := sha.New()
		h.Write(given)
		holds(t, "Write", h, b)
		if got := sha.Sum(given); got != sha1.Sum(b) {
			t.Errorf("Sum of %d bytes: %s", n, told(got))
		}
		if !bytes.Equal(before, given[:cap(given)]) {
			t.Fatalf("%d bytes: what is handed in is changed", n)
		}
		scribble(given)
		holds(t, "bytes that were changed behind a Write", h, b)
		h.Write(b)
		holds(t, "bytes that were changed, and more", h, slices.Concat(b, b))
	}
}

// One piece of memory for all that is written.
func TestSameMemory(t *testing.T) {
	r := rand.New(rand.NewSource(77))
	room := make([]byte, 100)
	h := sha.New()
	var written []byte
	for range 100 {
		r.Read(room)
		part := room[:r.Intn(len(room)+1)]
		h.Write(part)
		written = append(written, part...)
		scribble(room)
		holds(t, "one room", h, written)
	}
}

// Answers share no memory with one another.
func TestAnswers(t *testing.T) {
	for _, n := range []uint64{0, 1, 55, 56, 63, 64, 1 << 61, 1<<64 - 1} {
		first, second := sha.Pad(n), sha.Pad(n)
		want := padOf(n)
		scribble(first)
		if !bytes.Equal(second, want) || !bytes.Equal(sha.Pad(n), want) {
			t.Errorf("Pad(%d): two answers share memory", n)
		}
	}
	h := pieces([]byte("abc"))
	one := h.Sum()
	clear(one[:])
	holds(t, "a Sum that was changed", h, []byte("abc"))
	pad := sha.Pad(3)
	h.Write(pad)
	scribble(pad)
	holds(t, "a Pad that was changed", h, slices.Concat([]byte("abc"), padOf(3)))
}
