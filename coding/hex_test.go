package coding_test

import (
	"encoding/hex"
	"fmt"
	"math/rand"
	"strings"
	"testing"

	"vouch/coding"
)

// The chapter's examples of hex.
func TestExamplesOfHex(t *testing.T) {
	if got := coding.Hex([]byte{0x00, 0xFF, 0x1a}); got != "00ff1a" {
		t.Errorf("Hex: %s", got)
	}
	unhex.reads(t, "00fF1A", 0x00, 0xff, 0x1a)
	unhex.reads(t, "")
	for _, s := range []string{"0", "0g", "0x", " 00"} {
		unhex.refuses(t, s)
	}
}

// P6.1: Hex of no bytes, of each byte alone and at each place of others, and of bytes of all lengths.
func TestHex(t *testing.T) {
	for _, b := range [][]byte{nil, {}} {
		if got := coding.Hex(b); got != "" {
			t.Errorf("Hex of no bytes: %q", got)
		}
	}
	for c := range 256 {
		for at := range 5 {
			b := []byte{0xa5, 0x5a, 0x00, 0xff, 0x9f}
			b[at] = byte(c)
			if got, want := coding.Hex(b), fmt.Sprintf("%02x%02x%02x%02x%02x", b[0], b[1], b[2], b[3], b[4]); got != want {
				t.Fatalf("Hex(% x): %s", b, got)
			}
		}
		if got, want := coding.Hex([]byte{byte(c)}), fmt.Sprintf("%02x", c); got != want {
			t.Fatalf("Hex(%02x): %s", c, got)
		}
	}
	r := rand.New(rand.NewSource(81))
	for n := range 300 {
		for _, b := range lists(r, n) {
			if got := coding.Hex(b); got != hex.EncodeToString(b) {
				t.Fatalf("Hex(% x): %s", b, got)
			}
		}
	}
}

// P6.1: Unhex of all texts of two bytes, alone and behind others: great letters, small ones, and none.
func TestTwoDigits(t *testing.T) {
	for high := range 256 {
		for low := range 256 {
			s := string([]byte{byte(high), byte(low)})
			unhex.holds(t, s)
			unhex.holds(t, "0F"+s)
			unhex.holds(t, s+"e1")
		}
	}
}

// P6.1: Unhex of texts of all lengths, with small letters, great ones, and both in one text; of an odd number of digits there is nothing.
func TestUnhex(t *testing.T) {
	r := rand.New(rand.NewSource(82))
	for n := range 200 {
		for _, b := range lists(r, n) {
			s := hex.EncodeToString(b)
			for _, text := range []string{s, strings.ToUpper(s), mixed(r, s), mixed(r, s)} {
				unhex.reads(t, text, b...)
				for _, more := range hexLetters {
					unhex.refuses(t, text+string(more))
				}
				if n > 0 {
					unhex.refuses(t, text[1:])
					unhex.refuses(t, text[:len(text)-1])
				}
			}
		}
	}
}

// P6.1: a letter that is none, at every place of a text, over what stood there or between.
func TestNoDigit(t *testing.T) {
	r := rand.New(rand.NewSource(83))
	pieces := append(foreign(), "g", "G", "x", "X", "/", "=", "==", "h", "O", "l", "0x", "0X", "\\x", "+", "z", "Z")
	for _, n := range []int{0, 2, 4, 10} {
		s := mixed(r, hex.EncodeToString(drawn(r, n/2)))
		for at := range n + 1 {
			for _, piece := range pieces {
				for _, text := range []string{placed(s, at, piece, false), placed(s, at, piece, true), placed(s, at, piece+piece, false), placed(s, at, piece+"0", false)} {
					unhex.refuses(t, text)
				}
			}
		}
	}
}

// P6.1: all texts of few pieces that are letters or not.
func TestFewDigits(t *testing.T) {
	for n := range 5 {
		all([]string{"0", "9", "a", "A", "f", "F", "g", "G", ":", "/", "@", "`", "\n", " ", "\x80", "é"}, n, func(s string) { unhex.holds(t, s) })
	}
}

// P6.1: texts of drawn bytes, and hex in which one byte was changed.
func TestDrawnHex(t *testing.T) {
	r := rand.New(rand.NewSource(84))
	for range 20000 {
		unhex.holds(t, string(drawn(r, r.Intn(8))))
		b := []byte(mixed(r, hex.EncodeToString(drawn(r, 1+r.Intn(40)))))
		b[r.Intn(len(b))] = byte(r.Intn(256))
		unhex.holds(t, string(b))
	}
}

// P6.1: long ones, and a letter that is none in their last place, in their first, or in between.
func TestLongHex(t *testing.T) {
	r := rand.New(rand.NewSource(85))
	for _, n := range great {
		b := drawn(r, n)
		s := coding.Hex(b)
		if s != hex.EncodeToString(b) {
			t.Fatalf("Hex of %d bytes", n)
		}
		unhex.reads(t, s, b...)
		unhex.reads(t, strings.ToUpper(s), b...)
		unhex.refuses(t, s+"0")
		for _, at := range []int{0, 1, n, 2*n - 2, 2*n - 1} {
			unhex.refuses(t, placed(s, at, "g", true))
			unhex.refuses(t, placed(s, at, "\n", false))
		}
	}
}
