package sha_test

import (
	"crypto/sha1"
	"fmt"
	"math/rand"
	"slices"
	"testing"

	"vouch/sha"
)

// P5.5: cut in two at every place, and in three.
func TestCuts(t *testing.T) {
	r := rand.New(rand.NewSource(71))
	b := drawn(r, 5*block+17)
	for n := range 3*block + 1 {
		whole := b[:n]
		for cut := range n + 1 {
			holds(t, fmt.Sprintf("cut at %d", cut), pieces(whole[:cut], whole[cut:]), whole)
		}
	}
	for first := range b {
		second := first + r.Intn(len(b)-first)
		holds(t, fmt.Sprintf("cut at %d and %d", first, second), pieces(b[:first], b[first:second], b[second:]), b)
	}
}

// P5.5: in pieces of one length, and of lengths that are drawn.
func TestManyCuts(t *testing.T) {
	r := rand.New(rand.NewSource(72))
	for _, n := range edges() {
		b := drawn(r, n)
		for _, size := range []int{1, 2, 3, 7, 31, 55, 56, 63, 64, 65, 127, 128, 129, 1000} {
			holds(t, fmt.Sprintf("pieces of %d bytes", size), pieces(slices.Collect(slices.Chunk(b, size))...), b)
		}
		for range 10 {
			var list [][]byte
			for rest := b; len(rest) > 0; {
				size := min(len(rest), r.Intn(1+r.Intn(200)))
				list = append(list, rest[:size])
				rest = rest[size:]
			}
			holds(t, "drawn pieces", pieces(list...), b)
		}
	}
}

// P5.5: a message and what stands behind it fill blocks, and no block more than they need.
func TestWhole(t *testing.T) {
	r := rand.New(rand.NewSource(73))
	list := []uint64{1<<64 - 1, 1<<64 - 9, 1<<64 - 10, 1<<61 - 1, 1 << 61, 1<<61 + 1}
	for n := range uint64(1000) {
		list = append(list, n, r.Uint64())
	}
	for _, n := range list {
		size := len(sha.Pad(n))
		if (n+uint64(size))%block != 0 { // what is past 2^64 is a multiple of 64 too
			t.Errorf("behind %d bytes: %d", n, size)
		}
		if size < 9 || size >= 9+block {
			t.Errorf("behind %d bytes: %d, want fewer or more", n, size)
		}
	}
}

// P5.3, P5.4: what stands behind a message is written as all other bytes are.
func TestPadWritten(t *testing.T) {
	r := rand.New(rand.NewSource(74))
	for _, n := range edges() {
		b := drawn(r, n)
		pad := sha.Pad(uint64(n))
		whole := slices.Concat(b, pad)
		holds(t, "with its pad", pieces(b, pad), whole)
		if got, want := sha.Sum(whole), sha1.Sum(whole); got != want {
			t.Errorf("Sum of %d bytes and their pad: %s, want %s", n, told(got), told(want))
		}
	}
}
