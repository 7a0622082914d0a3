package rsa_test

import (
	"bytes"
	"crypto/sha1"
	"encoding/hex"
	"math"
	"math/rand"
	"testing"

	"vouch/api"
	"vouch/rsa"
)

// P8.4: the encoding in all sizes that there are, of drawn digests and of ones of a single byte.
func TestEncoded(t *testing.T) {
	r := rand.New(rand.NewSource(21))
	for size := 46; size <= 512; size++ {
		for _, digest := range [][20]byte{{}, [20]byte(bytes.Repeat([]byte{0xFF}, 20)), [20]byte(drawn(r, 20)), sha1.Sum(drawn(r, 30))} {
			encodes(t, digest, size)
		}
	}
	for i := range 20 {
		digest := [20]byte{}
		digest[i] = byte(i + 1)
		encodes(t, digest, 46+r.Intn(467))
	}
}

// P8.4: a size below 46 or above 512 is refused.
func TestEncodedSizes(t *testing.T) {
	for size := -1000; size < 3000; size++ {
		if size < 46 || size > 512 {
			encodesNothing(t, size)
		}
	}
	for _, size := range []int{math.MinInt, math.MinInt + 1, math.MinInt32, -65536, -4096, -46, 65536, 65582, 1 << 20, math.MaxInt32, math.MaxInt - 1, math.MaxInt} {
		encodesNothing(t, size)
	}
}

func encodesNothing(t *testing.T, size int) {
	t.Helper()
	if b, e := rsa.Encoded([20]byte{1, 2, 3}, size); e != api.ErrSize || len(b) > 0 {
		t.Fatalf("Encoded in %d bytes: %x, error %d", size, b, e)
	}
}

// P8.4: an encoding as it stands in other books: the chapter's numbers, byte by byte.
func TestEncodedAsWritten(t *testing.T) {
	for _, x := range []struct {
		size int
		want string
	}{
		{46, "0001" + "ffffffffffffffff" + "00" + "3021300906052b0e03021a05000414" + "a9993e364706816aba3e25717850c26c9cd0d89d"},
		{47, "0001" + "ffffffffffffffffff" + "00" + "3021300906052b0e03021a05000414" + "a9993e364706816aba3e25717850c26c9cd0d89d"},
		{64, "0001" + "ffffffffffffffffffffffffffffffffffffffffffffffffffff" + "00" + "3021300906052b0e03021a05000414" + "a9993e364706816aba3e25717850c26c9cd0d89d"},
	} {
		b, e := rsa.Encoded(sha1.Sum([]byte("abc")), x.size)
		if e != api.OK || hex.EncodeToString(b) != x.want {
			t.Errorf("Encoded in %d bytes: %x, error %d", x.size, b, e)
		}
	}
}
