package coding_test

import (
	"bytes"
	"math/rand"
	"slices"
	"strings"
	"testing"

	"vouch/api"
	"vouch/coding"
)

// roomy is a list with marked memory behind it.
func roomy(b []byte) []byte {
	return append(slices.Clone(b), bytes.Repeat([]byte{0xA5}, 200)...)[: len(b) : len(b)+200]
}

// scribble writes over all the memory of a list, what lies behind its length included.
func scribble(b []byte) {
	b = b[:cap(b)]
	for i := range b {
		b[i] ^= 0x5A
	}
}

// Bytes that are handed in are not changed, what lies behind them included, and not kept.
func TestBytesIn(t *testing.T) {
	r := rand.New(rand.NewSource(111))
	for name, tell := range map[string]func([]byte) string{"Hex": coding.Hex, "Base64": coding.Base64} {
		for n := range 130 {
			given := roomy(drawn(r, n))
			before := slices.Clone(given[:cap(given)])
			s := tell(given)
			if !bytes.Equal(before, given[:cap(given)]) {
				t.Fatalf("%s of %d bytes: what is handed in is changed", name, n)
			}
			kept := strings.Clone(s)
			scribble(given)
			if s != kept {
				t.Fatalf("%s of %d bytes: what is handed in is kept", name, n)
			}
			if tell(before[:n]) != s {
				t.Fatalf("%s of %d bytes: another text the second time", name, n)
			}
		}
	}
}

// What lies behind a list's length does not count.
func TestBehind(t *testing.T) {
	r := rand.New(rand.NewSource(112))
	for n := range 130 {
		b := drawn(r, n)
		if coding.Hex(roomy(b)) != coding.Hex(slices.Clip(b)) || coding.Base64(roomy(b)) != coding.Base64(slices.Clip(b)) {
			t.Fatalf("%d bytes: what lies behind counts", n)
		}
	}
}

// No two answers share memory, nor an answer with the text.
func TestBytesOut(t *testing.T) {
	r := rand.New(rand.NewSource(113))
	for n := range 130 {
		b := drawn(r, n)
		texts := map[string]reader{coding.Hex(b): unhex, strings.ToUpper(coding.Hex(b)): unhex}
		for s, x := range texts {
			apart(t, x, s, b)
		}
		apart(t, unbase64, coding.Base64(b), b)
	}
}

func apart(t *testing.T, x reader, s string, b []byte) {
	t.Helper()
	kept := strings.Clone(s)
	first, e := x.read(s)
	second, other := x.read(s)
	if e != api.OK || other != api.OK {
		t.Fatalf("%s(%q): %d, %d", x.name, s, e, other)
	}
	scribble(first)
	if !bytes.Equal(second, b) {
		t.Fatalf("%s(%q): two answers share memory", x.name, s)
	}
	if s != kept {
		t.Fatalf("%s(%q): the text is changed", x.name, kept)
	}
	x.reads(t, s, b...)
}
