package sha_test

import (
	"bytes"
	"crypto/sha1"
	"encoding/hex"
	"math/rand"
	"slices"
	"strings"
	"testing"

	"vouch/sha"
)

const block = 64

// edges are lengths at which something begins or ends: of what stands behind a message, and of blocks.
func edges() []int {
	list := []int{0, 1, 2, 3, 4, 5}
	for _, blocks := range []int{0, 1, 2, 3, 4, 16, 100} {
		for _, n := range []int{54, 55, 56, 57, 59, 60, 62, 63, 64, 65} {
			list = append(list, blocks*block+n)
		}
	}
	return list
}

// messages are as many bytes, of several kinds.
func messages(r *rand.Rand, n int) [][]byte {
	drawn, rising, own := make([]byte, n), make([]byte, n), make([]byte, n)
	r.Read(drawn)
	for i := range n {
		rising[i] = byte(i)
		own[i] = []byte{0x80, 0, 0x7f, 0xff}[r.Intn(4)]
	}
	return [][]byte{drawn, rising, own, make([]byte, n), bytes.Repeat([]byte{0xff}, n), bytes.Repeat([]byte{0x80}, n), bytes.Repeat([]byte{'a'}, n)}
}

func drawn(r *rand.Rand, n int) []byte { return messages(r, n)[0] }

// told is a sum as the chapter writes it.
func told(s [20]byte) string {
	text := strings.ToUpper(hex.EncodeToString(s[:]))
	var list []string
	for word := range slices.Chunk([]byte(text), 8) {
		list = append(list, string(word))
	}
	return strings.Join(list, " ")
}

// pieces is a Hash to which pieces were written one by one.
func pieces(list ...[]byte) *sha.Hash {
	h := sha.New()
	for _, b := range list {
		h.Write(b)
	}
	return h
}

// holds holds a Hash against all that was written to it, by the library.
func holds(t *testing.T, what string, h *sha.Hash, written []byte) {
	t.Helper()
	if got, want := h.Sum(), sha1.Sum(written); got != want {
		t.Fatalf("%s: Sum of %d bytes: %s, want %s", what, len(written), told(got), told(want))
	}
	if got := h.Len(); got != uint64(len(written)) {
		t.Fatalf("%s: Len of %d bytes: %d", what, len(written), got)
	}
}
