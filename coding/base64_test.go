package coding_test

import (
	"encoding/base64"
	"math/rand"
	"strings"
	"testing"

	"vouch/api"
	"vouch/coding"
)

// The chapter's examples of base64.
func TestExamplesOfBase64(t *testing.T) {
	for s, b := range map[string][]byte{
		"":     nil,
		"TQ==": {0x4d},
		"TWE=": {0x4d, 0x61},
		"TWFu": {0x4d, 0x61, 0x6e},
		"///+": {0xff, 0xff, 0xfe},
	} {
		if got := coding.Base64(b); got != s {
			t.Errorf("Base64(% x): %s, want %s", b, got, s)
		}
		unbase64.reads(t, s, b...)
	}
	for _, s := range []string{"TR==", "TQ=", "TQ", "T===", "TQ==TQ==", "TW-u", "TWFu\n", "===="} {
		unbase64.refuses(t, s)
	}
}

// byBits is base64 by the chapter's words: the bits one behind the other, six a letter, and what fills up.
func byBits(b []byte) string {
	bits := ""
	for _, c := range b {
		for i := range 8 {
			bits += string('0' + c>>(7-i)&1)
		}
	}
	for len(bits)%6 > 0 {
		bits += "00"
	}
	s := ""
	for ; len(bits) > 0; bits = bits[6:] {
		worth := 0
		for _, bit := range bits[:6] {
			worth = 2*worth + int(bit-'0')
		}
		s += base64Letters[worth : worth+1]
	}
	return s + []string{"", "==", "="}[len(b)%3]
}

// P6.2: Base64 of no bytes, of each byte at each place among others, and of bytes of all lengths.
func TestBase64(t *testing.T) {
	for _, b := range [][]byte{nil, {}} {
		if got := coding.Base64(b); got != "" {
			t.Errorf("Base64 of no bytes: %q", got)
		}
	}
	holds := func(b []byte) {
		t.Helper()
		if got := coding.Base64(b); got != byBits(b) || got != base64.StdEncoding.EncodeToString(b) {
			t.Fatalf("Base64(% x): %s, want %s", b, got, byBits(b))
		}
	}
	for c := range 256 {
		for n := 1; n < 8; n++ {
			for at := range n {
				b := []byte{0xa5, 0x5a, 0x00, 0xff, 0x9f, 0x61, 0x80}[:n]
				b[at] = byte(c)
				holds(b)
			}
		}
	}
	r := rand.New(rand.NewSource(91))
	for n := range 200 {
		for _, b := range lists(r, n) {
			holds(b)
		}
	}
}

// P6.2: each letter is of its worth, in each place of four.
func TestLetters(t *testing.T) {
	for worth, letter := range base64Letters {
		s := string(letter)
		unbase64.reads(t, s+"AAA", byte(worth<<2), 0, 0)
		unbase64.reads(t, "A"+s+"AA", byte(worth>>4), byte(worth<<4), 0)
		unbase64.reads(t, "AA"+s+"A", 0, byte(worth>>2), byte(worth<<6))
		unbase64.reads(t, "AAA"+s, 0, 0, byte(worth))
	}
}

// P6.2: of all texts of one letter or two, three letters or four of the few that are looked at, and what fills up.
func TestFewLetters(t *testing.T) {
	for n := range 5 {
		all(edges, n, func(s string) { unbase64.holds(t, s) })
	}
	for n := range 4 {
		for _, fill := range []string{"=", "==", "===", "===="} {
			all(edges, n, func(s string) {
				unbase64.holds(t, s+fill)
				unbase64.holds(t, "TWFu"+s+fill)
			})
		}
	}
}

// P6.2: one byte and two bytes are told by one text each; bits that fill up and are not 0 are refused.
func TestFillBits(t *testing.T) {
	told := 0
	check := func(s string) {
		t.Helper()
		unbase64.holds(t, s)
		if _, e := coding.Unbase64(s); e == api.OK {
			told++
		}
	}
	pieces := strings.Split(base64Letters, "")
	all(pieces, 2, func(s string) { check(s + "==") })
	if told != 256 {
		t.Errorf("%d texts are of one byte", told)
	}
	told = 0
	all(pieces, 3, func(s string) { check(s + "=") })
	if told != 65536 {
		t.Errorf("%d texts are of two bytes", told)
	}
	r := rand.New(rand.NewSource(92))
	for range 200 {
		ahead := base64.StdEncoding.EncodeToString(drawn(r, 3*r.Intn(20)))
		for i, letter := range base64Letters {
			one, two := ahead+"T"+string(letter)+"==", ahead+"TW"+string(letter)+"="
			unbase64.holds(t, one)
			unbase64.holds(t, two)
			if i%16 > 0 {
				unbase64.refuses(t, one)
			}
			if i%4 > 0 {
				unbase64.refuses(t, two)
			}
		}
	}
}

// P6.2: letters that fill up are missing, too many, ahead, or alone.
func TestFill(t *testing.T) {
	r := rand.New(rand.NewSource(93))
	for n := range 40 {
		b := drawn(r, n)
		s := base64.StdEncoding.EncodeToString(b)
		bare := strings.TrimRight(s, "=")
		for count := range 9 {
			fills := strings.Repeat("=", count)
			if bare+fills == s {
				unbase64.reads(t, s, b...)
			} else {
				unbase64.refuses(t, bare+fills)
			}
			if count > 0 {
				unbase64.refuses(t, fills)
				unbase64.refuses(t, fills+s)
			}
		}
	}
}

// P6.2: letters that fill up stand in the middle: between letters, over one, or at the end of a text behind which another stands.
func TestFillInside(t *testing.T) {
	r := rand.New(rand.NewSource(97))
	for n := 1; n < 40; n++ {
		s := base64.StdEncoding.EncodeToString(drawn(r, n))
		bare := strings.TrimRight(s, "=")
		for at := range bare {
			for _, fill := range []string{"=", "==", "===", "===="} {
				unbase64.refuses(t, placed(s, at, fill, false))
				if at+len(fill) < len(bare) {
					unbase64.refuses(t, placed(s, at, fill, true))
				}
			}
		}
		if bare != s {
			unbase64.refuses(t, s+s)
			unbase64.refuses(t, s+"TWFu")
			unbase64.refuses(t, s+"AAAA")
		}
	}
}

// P6.2: a letter that is none, at every place of a text, over what stood there or between; so too line ends, which others read over.
func TestNoLetter(t *testing.T) {
	r := rand.New(rand.NewSource(94))
	for _, n := range []int{0, 1, 2, 3, 4, 5, 6, 9} {
		s := base64.StdEncoding.EncodeToString(drawn(r, n))
		for at := range len(s) + 1 {
			for _, piece := range foreign() {
				for _, text := range []string{placed(s, at, piece, false), placed(s, at, piece, true), placed(s, at, strings.Repeat(piece, 2), false), placed(s, at, strings.Repeat(piece, 4), false), placed(s, at, piece+"AAA", false)} {
					unbase64.refuses(t, text)
				}
			}
		}
	}
}

// P6.2: each number of letters that is no multiple of four.
func TestLengths(t *testing.T) {
	for n := range 100 {
		s := strings.Repeat("A", n)
		if n%4 > 0 {
			unbase64.refuses(t, s)
		} else {
			unbase64.reads(t, s, make([]byte, n/4*3)...)
		}
	}
}

// P6.2: texts of drawn bytes and letters, and base64 in which one byte was changed.
func TestDrawnBase64(t *testing.T) {
	r := rand.New(rand.NewSource(95))
	for range 20000 {
		unbase64.holds(t, string(drawn(r, r.Intn(8))))
		letters := drawn(r, 4*(1+r.Intn(5)))
		for i, c := range letters {
			letters[i] = base64Letters[c%64]
		}
		unbase64.holds(t, string(letters))
		b := []byte(base64.StdEncoding.EncodeToString(drawn(r, 1+r.Intn(40))))
		b[r.Intn(len(b))] = byte(r.Intn(256))
		unbase64.holds(t, string(b))
		b[r.Intn(len(b))] = base64Letters[r.Intn(64)]
		unbase64.holds(t, string(b))
	}
}

// P6.2: long ones, and what is wrong in their last place, in their first, or in between.
func TestLongBase64(t *testing.T) {
	r := rand.New(rand.NewSource(96))
	for _, n := range great {
		b := drawn(r, n)
		s := coding.Base64(b)
		if s != base64.StdEncoding.EncodeToString(b) {
			t.Fatalf("Base64 of %d bytes", n)
		}
		unbase64.reads(t, s, b...)
		unbase64.refuses(t, s+"=")
		unbase64.refuses(t, s+"A")
		for _, at := range []int{0, 1, n, len(s) - 4, len(s) - 1, len(s)} {
			unbase64.refuses(t, placed(s, at, "-", true))
			unbase64.refuses(t, placed(s, at, "\n", false))
			unbase64.refuses(t, placed(s, at, "\r\n\r\n", false))
		}
		unbase64.refuses(t, placed(s, n, "=", true))
	}
}
