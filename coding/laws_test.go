package coding_test

import (
	"bytes"
	"math/rand"
	"strings"
	"testing"

	"vouch/api"
	"vouch/coding"
)

// P6.3: what was told of bytes is read as the bytes, and is as long as it must be.
func TestThereAndBack(t *testing.T) {
	r := rand.New(rand.NewSource(101))
	lengths := append([]int{}, great...)
	for n := range 300 {
		lengths = append(lengths, n)
	}
	for _, n := range lengths {
		for _, b := range lists(r, n) {
			s := coding.Hex(b)
			if len(s) != 2*n {
				t.Fatalf("Hex of %d bytes has %d letters", n, len(s))
			}
			unhex.reads(t, s, b...)
			s = coding.Base64(b)
			if len(s) != (n+2)/3*4 {
				t.Fatalf("Base64 of %d bytes has %d letters", n, len(s))
			}
			unbase64.reads(t, s, b...)
		}
	}
}

// P6.3: of a text that Unhex reads Hex tells it with small letters.
func TestHexAgain(t *testing.T) {
	check := func(s string) bool {
		t.Helper()
		b, e := coding.Unhex(s)
		if e == api.OK && coding.Hex(b) != strings.ToLower(s) {
			t.Fatalf("Hex of Unhex(%q): %s", s, coding.Hex(b))
		}
		return e == api.OK
	}
	read := 0
	for n := range 5 {
		all(strings.Split(hexLetters+"g", ""), n, func(s string) {
			if check(s) {
				read++
			}
		})
	}
	if want := 1 + 22*22 + 22*22*22*22; read != want {
		t.Errorf("%d texts are read, want %d", read, want)
	}
	r := rand.New(rand.NewSource(102))
	for n := range 200 {
		if s := mixed(r, coding.Hex(drawn(r, n))); !check(s) {
			t.Errorf("%q is not read", s)
		}
	}
}

// P6.3: of a text that Unbase64 reads Base64 tells that text again.
func TestBase64Again(t *testing.T) {
	check := func(s string) bool {
		t.Helper()
		b, e := coding.Unbase64(s)
		if e == api.OK && coding.Base64(b) != s {
			t.Fatalf("Base64 of Unbase64(%q): %s", s, coding.Base64(b))
		}
		return e == api.OK
	}
	for n := range 5 {
		all(edges, n, func(s string) { check(s) })
	}
	r := rand.New(rand.NewSource(103))
	read := 0
	for range 50000 {
		s := make([]byte, 4*(1+r.Intn(3)))
		for i := range s {
			s[i] = base64Letters[r.Intn(64)]
		}
		copy(s[len(s)-r.Intn(4):], "===")
		if check(string(s)) {
			read++
		}
	}
	if read < 1000 {
		t.Errorf("%d texts are read", read)
	}
}

// P6.3: unlike bytes have unlike texts.
func TestUnlike(t *testing.T) {
	hexes, base64s := map[string]int{}, map[string]int{}
	for n := range 1 << 16 {
		b := []byte{byte(n >> 8), byte(n)}
		hexes[coding.Hex(b)]++
		base64s[coding.Base64(b)]++
		if n < 1<<8 {
			hexes[coding.Hex(b[1:])]++
			base64s[coding.Base64(b[1:])]++
		}
	}
	if want := 1<<16 + 1<<8; len(hexes) != want || len(base64s) != want {
		t.Errorf("%d and %d texts, want %d", len(hexes), len(base64s), want)
	}
}

// What a call answers hangs on its argument alone: asked again, behind other calls, it is the same.
func TestAgain(t *testing.T) {
	r := rand.New(rand.NewSource(104))
	for n := range 100 {
		b := drawn(r, n)
		hex, base64 := coding.Hex(b), coding.Base64(b)
		for _, s := range []string{"0g", "TR==", "00", "====", hex + "f", base64 + "Q", hex + "fg", base64 + "//1="} {
			coding.Unhex(s)
			coding.Unbase64(s)
		}
		unhex.reads(t, hex, b...)
		unbase64.reads(t, base64, b...)
		if coding.Hex(bytes.Clone(b)) != hex || coding.Base64(bytes.Clone(b)) != base64 {
			t.Fatalf("another text of %x", b)
		}
	}
}
