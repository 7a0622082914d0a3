package coding_test

import (
	"bytes"
	"encoding/base64"
	"encoding/hex"
	"math/rand"
	"slices"
	"strings"
	"testing"
	"unicode/utf8"

	"vouch/api"
	"vouch/coding"
)

const (
	hexLetters    = "0123456789abcdefABCDEF"
	base64Letters = "ABCDEFGHIJKLMNOPQRSTUVWXYZabcdefghijklmnopqrstuvwxyz0123456789+/"
)

// reader is what reads a text as bytes: the program's function, the error that it tells, and what tells by the library whether there are such bytes.
type reader struct {
	name  string
	read  func(string) ([]byte, api.Errno)
	wrong api.Errno
	want  func(string) ([]byte, bool)
}

var (
	unhex    = reader{"Unhex", coding.Unhex, api.ErrHex, unhexed}
	unbase64 = reader{"Unbase64", coding.Unbase64, api.ErrBase64, unbase64ed}
)

// unhexed tells by the library the bytes of which a text is the hex.
func unhexed(s string) ([]byte, bool) {
	b, err := hex.DecodeString(s)
	return b, err == nil
}

// unbase64ed tells by the library the bytes of which a text is the base64: no other text is it than the one that the library tells of the bytes.
func unbase64ed(s string) ([]byte, bool) {
	b, err := base64.StdEncoding.DecodeString(s)
	return b, err == nil && base64.StdEncoding.EncodeToString(b) == s
}

// holds holds what is read out of a text against what the library reads.
func (x reader) holds(t *testing.T, s string) {
	t.Helper()
	b, ok := x.want(s)
	if !ok {
		x.refuses(t, s)
		return
	}
	if got, e := x.read(s); e != api.OK || !bytes.Equal(got, b) {
		t.Fatalf("%s(%.200q): %.100x, %d, want %.100x", x.name, s, got, e, b)
	}
}

// refuses: with the error, nothing else is told.
func (x reader) refuses(t *testing.T, s string) {
	t.Helper()
	if got, e := x.read(s); e != x.wrong || len(got) > 0 {
		t.Fatalf("%s(%.200q): %.100x, %d, want error %d and nothing", x.name, s, got, e, x.wrong)
	}
}

// reads: just these bytes.
func (x reader) reads(t *testing.T, s string, want ...byte) {
	t.Helper()
	if got, e := x.read(s); e != api.OK || !bytes.Equal(got, want) {
		t.Fatalf("%s(%.200q): %.100x, %d, want %.100x", x.name, s, got, e, want)
	}
}

// lists are as many bytes, of several kinds.
func lists(r *rand.Rand, n int) [][]byte {
	rising := make([]byte, n)
	for i := range rising {
		rising[i] = byte(i)
	}
	return [][]byte{drawn(r, n), rising, make([]byte, n), bytes.Repeat([]byte{0xff}, n), bytes.Repeat([]byte{0x80, 0x01}, n)[:n]}
}

func drawn(r *rand.Rand, n int) []byte {
	b := make([]byte, n)
	r.Read(b)
	return b
}

// great are lengths of texts that are long.
var great = []int{1000, 4095, 4096, 4097, 65535, 65536, 65537, 1 << 20, 1<<20 + 1}

// foreign are pieces of texts that are no letters of hex, nor of base64: texts past ASCII, bytes that are no text in UTF-8, and letters that stand beside those that are meant.
func foreign() []string {
	list := []string{"\n", "\r", "\r\n", "\t", " ", "\x00", "\v", "\f", "\x7f", "-", "_", ":", ".", ",", "@", "[", "`", "{", "!", "\"", "$", "\\", "*", "<", ">", "?"}
	for _, r := range []rune{0x80, 0xa0, 0xb2, 0xbd, 0xff, 0x130, 0x131, 0x17f, 0x212a, 0x660, 0x661, 0x966, 0x1d7d8, 0x2007, 0x2028, 0x2212, 0xfeff, 0xfffd, 0xfffe, 0x10ffff} {
		list = append(list, string(r))
	}
	for _, c := range []byte(base64Letters + "=") { // the same in lower bits, and the broad ones
		for _, r := range []rune{0x80, 0x100, 0x400, 0x4000, 0xfee0, 0x10000, 0x100000} {
			list = append(list, string(r+rune(c)))
		}
		list = append(list, string([]byte{c | 0x80}), string([]byte{0xc0 | c>>6, 0x80 | c&63}), string([]byte{0xe0, 0x80 | c>>6, 0x80 | c&63}))
	}
	for c := 0x80; c < 0x100; c++ {
		list = append(list, string([]byte{byte(c)}))
	}
	return append(list, "\xed\xa0\x80", "\xf4\x90\x80\x80", "\xe2\x82", "\xf0\x9f\x98", "\x80\x80")
}

// placed tells a text in which a piece stands at a place: between what was there, or over as many bytes of it.
func placed(s string, at int, piece string, over bool) string {
	end := at
	if over {
		end = min(len(s), at+len(piece))
	}
	return s[:at] + piece + s[end:]
}

// mixed tells a text with some letters great and others small.
func mixed(r *rand.Rand, s string) string {
	return strings.Map(func(c rune) rune {
		if r.Intn(2) == 0 {
			return []rune(strings.ToUpper(string(c)))[0]
		}
		return c
	}, s)
}

// edges are pieces of texts about which something is to be looked at: letters of all kinds, and others.
var edges = []string{"A", "B", "Q", "Z", "a", "b", "f", "g", "z", "0", "4", "9", "+", "/", "-", "=", "\n", " ", "\x80", "é"}

// all tells all texts of so many pieces.
func all(pieces []string, n int, yield func(string)) {
	if n == 0 {
		yield("")
		return
	}
	for _, piece := range pieces {
		all(pieces, n-1, func(s string) { yield(piece + s) })
	}
}

// The list of foreign pieces is one: some of them are texts in UTF-8, some are not, none is a letter.
func TestForeign(t *testing.T) {
	texts := slices.DeleteFunc(foreign(), func(s string) bool { return !utf8.ValidString(s) })
	if len(texts) == 0 || len(texts) == len(foreign()) {
		t.Errorf("%d pieces are texts, of %d", len(texts), len(foreign()))
	}
	for _, s := range foreign() {
		if strings.ContainsAny(s, base64Letters+"=") {
			t.Errorf("%q is a letter", s)
		}
	}
}
