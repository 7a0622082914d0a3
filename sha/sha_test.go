package sha_test

import (
	"bytes"
	"crypto/sha1"
	"encoding/binary"
	"fmt"
	"math"
	"math/big"
	"math/rand"
	"strings"
	"testing"

	"vouch/sha"
)

// The chapter's sums, and others that are known.
func TestExamples(t *testing.T) {
	for text, want := range map[string]string{
		"":    "DA39A3EE 5E6B4B0D 3255BFEF 95601890 AFD80709",
		"abc": "A9993E36 4706816A BA3E2571 7850C26C 9CD0D89D",
		"abcdbcdecdefdefgefghfghighijhijkijkljklmklmnlmnomnopnopq": "84983E44 1C3BD26E BAAE4AA1 F95129E5 E54670F1",
		"a": "86F7E437 FAA5A7FC E15D1DDC B9EAEAEA 377667B8",
		"The quick brown fox jumps over the lazy dog": "2FD4E1C6 7A2D28FC ED849EE1 BB76E739 1B93EB12",
		strings.Repeat("a", 1000000):                  "34AA973C D4C4DAA4 F61EEB2B DBAD2731 6534016F",
	} {
		if got := told(sha.Sum([]byte(text))); got != want {
			t.Errorf("Sum(%.70q): %s, want %s", text, got, want)
		}
	}
	if got := sha.Sum(nil); got != sha.Sum([]byte{}) {
		t.Errorf("Sum of nil: %s", told(got))
	}
}

// The chapter's example of a Hash.
func TestExampleOfHash(t *testing.T) {
	h := sha.New()
	h.Write([]byte("a"))
	if got := h.Sum(); got != sha.Sum([]byte("a")) {
		t.Errorf("behind a: %s", told(got))
	}
	h.Write([]byte("bc"))
	if got := told(h.Sum()); got != "A9993E36 4706816A BA3E2571 7850C26C 9CD0D89D" {
		t.Errorf("behind a and bc: %s", got)
	}
	if h.Len() != 3 {
		t.Errorf("Len: %d", h.Len())
	}
}

// The chapter's examples of Pad.
func TestExamplesOfPad(t *testing.T) {
	if got, want := sha.Pad(0), append([]byte{0x80}, make([]byte, 63)...); !bytes.Equal(got, want) {
		t.Errorf("Pad(0): %x", got)
	}
	if got, want := sha.Pad(55), []byte{0x80, 0, 0, 0, 0, 0, 0, 0x01, 0xB8}; !bytes.Equal(got, want) {
		t.Errorf("Pad(55): %x", got)
	}
	if got, want := sha.Pad(56), append(append([]byte{0x80}, make([]byte, 69)...), 0x01, 0xC0); !bytes.Equal(got, want) {
		t.Errorf("Pad(56): %x", got)
	}
}

// P5.1: two Hashes share nothing, written in turn, one of them set back.
func TestTwo(t *testing.T) {
	r := rand.New(rand.NewSource(61))
	one, other := sha.New(), sha.New()
	if one == other || one == nil {
		t.Fatal("New answers one Hash twice, or none")
	}
	var first, second []byte
	for i := range 200 {
		b, c := drawn(r, r.Intn(100)), drawn(r, r.Intn(100))
		one.Write(b)
		other.Write(c)
		first, second = append(first, b...), append(second, c...)
		if i == 120 {
			one.Reset()
			first = nil
		}
		holds(t, "the first", one, first)
		holds(t, "the other", other, second)
	}
	holds(t, "a third", sha.New(), nil)
}

// No call panics, whatever it is called on.
func TestNone(t *testing.T) {
	for _, h := range []*sha.Hash{nil, new(sha.Hash)} {
		h.Write(nil)
		h.Write(make([]byte, 200))
		h.Sum()
		h.Len()
		h.Reset()
	}
}

// P5.2: of all lengths from no byte on.
func TestSum(t *testing.T) {
	r := rand.New(rand.NewSource(62))
	for n := range 10 * block {
		for i, b := range messages(r, n) {
			if got, want := sha.Sum(b), sha1.Sum(b); got != want {
				t.Fatalf("Sum of %d bytes of kind %d: %s, want %s", n, i, told(got), told(want))
			}
		}
	}
	for _, n := range append(edges(), 65535, 65536, 65591, 65592, 1<<20-1, 1<<20, 1<<20+1) {
		b := drawn(r, n)
		if got, want := sha.Sum(b), sha1.Sum(b); got != want {
			t.Fatalf("Sum of %d bytes: %s, want %s", n, told(got), told(want))
		}
	}
}

// P5.2: each bit counts.
func TestBits(t *testing.T) {
	r := rand.New(rand.NewSource(63))
	for _, n := range []int{1, 55, 56, 64, 119, 130} {
		b := drawn(r, n)
		for i := range 8 * n {
			b[i/8] ^= 1 << (i % 8)
			if got, want := sha.Sum(b), sha1.Sum(b); got != want {
				t.Fatalf("Sum of %d bytes, bit %d changed: %s, want %s", n, i, told(got), told(want))
			}
			b[i/8] ^= 1 << (i % 8)
		}
	}
}

// P5.2, P5.3: the length counts in bits past those of 32.
func TestLong(t *testing.T) {
	part := make([]byte, 1<<20)
	for i := range part {
		part[i] = byte(i * i >> 3)
	}
	h, library := sha.New(), sha1.New()
	for range 512 {
		h.Write(part)
		library.Write(part)
	}
	h.Write(part[:7])
	library.Write(part[:7])
	got := h.Sum()
	if want := library.Sum(nil); !bytes.Equal(got[:], want) || h.Len() != 1<<29+7 {
		t.Errorf("%s behind %d bytes, want %X", told(got), h.Len(), want)
	}
}

// P5.3: a new Hash, to which nothing is written.
func TestNew(t *testing.T) {
	holds(t, "New", sha.New(), nil)
	h := sha.New()
	for _, b := range [][]byte{nil, {}, nil} {
		h.Write(b)
		holds(t, "no bytes", h, nil)
	}
	h.Write([]byte("abc"))
	holds(t, "behind no bytes", h, []byte("abc"))
}

// P5.3: Writes that end at, before and behind a block's end, Writes of no bytes between them.
func TestWrite(t *testing.T) {
	r := rand.New(rand.NewSource(64))
	for _, n := range edges() {
		for _, m := range []int{0, 1, 7, 8, 9, 55, 56, 63, 64, 65, 119, 128, 129, 1000} {
			b := drawn(r, n+m)
			h := sha.New()
			for _, part := range [][]byte{nil, b[:n], {}, b[n:], nil} {
				h.Write(part)
			}
			holds(t, fmt.Sprintf("cut at %d", n), h, b)
		}
	}
}

// P5.3: a Sum, asked once or twice, and a Len, change nothing.
func TestSumBetween(t *testing.T) {
	r := rand.New(rand.NewSource(65))
	for _, n := range edges() {
		b := drawn(r, n+150)
		h := pieces(b[:n])
		for end := n; end < len(b); end++ {
			first, length := h.Sum(), h.Len()
			if h.Sum() != first || h.Len() != length {
				t.Fatalf("behind %d bytes: another Sum or Len the second time", end)
			}
			holds(t, "between", h, b[:end])
			h.Write(b[end : end+1])
		}
		holds(t, "in the end", h, b)
	}
}

// P5.3: Reset at every place of a block, behind Sums and behind nothing, and bytes behind it.
func TestReset(t *testing.T) {
	r := rand.New(rand.NewSource(66))
	h := sha.New()
	h.Reset()
	holds(t, "Reset of a new one", h, nil)
	for n := range 3 * block {
		b, c := messages(r, n)[4], drawn(r, r.Intn(200))
		h.Write(b)
		if n%2 == 0 {
			h.Sum()
		}
		h.Reset()
		holds(t, "Reset", h, nil)
		h.Write(c)
		holds(t, "behind Reset", h, c)
		h.Reset()
		h.Reset()
		holds(t, "Reset twice", h, nil)
	}
}

// P5.3: all calls in any order.
func TestAnyOrder(t *testing.T) {
	r := rand.New(rand.NewSource(67))
	for range 300 {
		h := sha.New()
		var written []byte
		for range 40 {
			switch r.Intn(8) {
			case 0:
				holds(t, "in between", h, written)
			case 1:
				if r.Intn(4) == 0 {
					h.Reset()
					written = nil
				}
			case 2:
				h.Write(nil)
			case 3:
				b := drawn(r, r.Intn(1000))
				h.Write(b)
				written = append(written, b...)
			default:
				b := drawn(r, r.Intn(80))
				h.Write(b)
				written = append(written, b...)
			}
		}
		holds(t, "in the end", h, written)
	}
}

// padOf is what stands behind a message, by the chapter's words.
func padOf(n uint64) []byte {
	size := new(big.Int).SetUint64(n)
	b := []byte{0x80}
	for {
		whole := new(big.Int).Add(size, big.NewInt(int64(len(b))))
		if whole.Mod(whole, big.NewInt(block)).Int64() == 56 {
			break
		}
		b = append(b, 0)
	}
	inBits := size.Lsh(size, 3)
	inBits.Mod(inBits, new(big.Int).Lsh(big.NewInt(1), 64))
	return binary.BigEndian.AppendUint64(b, inBits.Uint64())
}

// P5.4: of all places of a block, and of numbers at which the length in bits comes into a further byte, or past 2^64.
func TestPad(t *testing.T) {
	var list []uint64
	for n := range uint64(1000) {
		list = append(list, n, math.MaxUint64-n, 1<<61+n, 1<<61-n, 1<<63+n, 1<<63-n)
	}
	for k := range 64 {
		for n := range uint64(70) {
			list = append(list, 1<<k+n, 1<<k-n)
		}
	}
	r := rand.New(rand.NewSource(68))
	for range 1000 {
		list = append(list, r.Uint64(), r.Uint64()>>r.Intn(64))
	}
	for _, n := range list {
		if got, want := sha.Pad(n), padOf(n); !bytes.Equal(got, want) {
			t.Fatalf("Pad(%d): %x, want %x", n, got, want)
		}
	}
}
