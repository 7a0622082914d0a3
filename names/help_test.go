package names_test

import (
	"bytes"
	"encoding/asn1"
	"encoding/base64"
	"encoding/binary"
	"encoding/hex"
	"math/big"
	"math/rand"
	"regexp"
	"slices"
	"strings"
	"testing"

	"vouch/api"
	"vouch/der"
	"vouch/names"
)

// exampleHex is the bytes of the key of the chapter's examples, in hex; its N is exampleN, its E 3.
const (
	exampleN   = "d548544978a25cc720cd9d5e95764f47466f3e4c482c9f0483d5f0413a1049a01fa3e404e70963aab23189b28d811e9fbf21c33b374b81381a93b48c5060d3e5"
	exampleHex = "3046024100" + exampleN + "020103"
)

// exampleBase64 is the same bytes in base64.
func exampleBase64() string { return inBase64(unhexed(exampleHex)) }

// exampleKey is that key.
func exampleKey() api.Key { return keyOf(hexNumber(exampleN), small(3)) }

func hexNumber(s string) *big.Int {
	n, _ := new(big.Int).SetString(s, 16)
	return n
}

func unhexed(s string) []byte {
	b, err := hex.DecodeString(s)
	if err != nil {
		panic(err)
	}
	return b
}

func inBase64(b []byte) string { return base64.StdEncoding.EncodeToString(b) }

// listOf is the list of a number of the library's, in its form.
func listOf(n *big.Int) []uint64 {
	b := n.FillBytes(make([]byte, (n.BitLen()+63)/64*8))
	list := make([]uint64, len(b)/8)
	for i := range list {
		list[i] = binary.BigEndian.Uint64(b[len(b)-8*(i+1):])
	}
	return list
}

func keyOf(n, e *big.Int) api.Key { return api.Key{N: listOf(n), E: listOf(e)} }

func small(n int64) *big.Int { return big.NewInt(n) }

func power(n int) *big.Int { return new(big.Int).Lsh(big.NewInt(1), uint(n)) }

func plus(n *big.Int, by int64) *big.Int { return new(big.Int).Add(n, big.NewInt(by)) }

// padded is a list with n 0s behind it.
func padded(a []uint64, n int) []uint64 {
	return append(slices.Clone(a), make([]uint64, n)...)
}

// odd is an odd number of exactly so many bits.
func odd(r *rand.Rand, bits int) *big.Int {
	n := new(big.Int).Rand(r, power(bits-1))
	return n.Or(n, power(bits-1)).SetBit(n, 0, 1)
}

func drawn(r *rand.Rand, n int) []byte {
	b := make([]byte, n)
	r.Read(b)
	return b
}

// bytesOf is a key's bytes, by the library.
func bytesOf(n, e *big.Int) []byte {
	b, err := asn1.Marshal(struct{ N, E *big.Int }{n, e})
	if err != nil {
		panic(err)
	}
	return b
}

// laid is an item whose content is made of pieces.
func laid(tag byte, pieces ...[]byte) []byte {
	content := slices.Concat(pieces...)
	if len(content) < 0x80 {
		return slices.Concat([]byte{tag, byte(len(content))}, content)
	}
	length := small(int64(len(content))).Bytes()
	return slices.Concat([]byte{tag, 0x80 + byte(len(length))}, length, content)
}

// integer is a number as an item, with so many bytes 0 ahead of those that must be there.
func integer(n *big.Int, zeros int) []byte {
	return laid(0x02, make([]byte, zeros), contentOf(n))
}

// contentOf is a number as an integer's content.
func contentOf(n *big.Int) []byte {
	b := n.Bytes()
	if len(b) == 0 || b[0] > 0x7f {
		b = slices.Concat([]byte{0}, b)
	}
	return b
}

// mixed tells a text with some of its letters great and others small.
func mixed(r *rand.Rand, s string) string {
	b := []byte(s)
	for i := range b {
		letter := b[i] | 0x20
		if letter >= 'a' && letter <= 'z' && r.Intn(2) == 0 {
			b[i] ^= 0x20
		}
	}
	return string(b)
}

// casings are all ways to write a text of ASCII in great letters and small ones.
func casings(s string) []string {
	list := []string{""}
	for _, c := range strings.Split(s, "") {
		var longer []string
		for _, ahead := range list {
			longer = append(longer, ahead+strings.ToLower(c))
			if strings.ToUpper(c) != strings.ToLower(c) {
				longer = append(longer, ahead+strings.ToUpper(c))
			}
		}
		list = longer
	}
	return list
}

// all tells all texts of so many pieces.
func all(pieces []string, n int, yield func(string)) {
	if n == 0 {
		yield("")
		return
	}
	for _, piece := range pieces {
		all(pieces, n-1, func(s string) { yield(piece + s) })
	}
}

// foreign are letters of other alphabets that the library takes for those of a to z, or that have their numbers in lower bits, and bytes that are no text in UTF-8.
func foreign() []string {
	list := []string{"\u017f", "\u0130", "\u0131", "\u212a", "\u00e9", "\u0660", "\u0664", "\uff11", "\u2010", "\u2011", "\u2212", "\u00ad", "\uff0d", "\uff1a", "\ufffd", "\xed\xa0\x80", "\xc1\xa1", "\xe0\x81\xa1"}
	for _, c := range []byte("rsahexbigRSAHEXBIG6419-:") {
		for _, r := range []rune{0x80, 0x100, 0x400, 0xfee0, 0x10000} {
			list = append(list, string(r+rune(c)))
		}
		list = append(list, string([]byte{c | 0x80}), string([]byte{0xc0 | c>>6, 0x80 | c&63}))
	}
	return list
}

// keyFront and signatureFront are the chapter's words of fronts; each letter is written in both its forms, for the library would fold others, too.
var (
	keyFront       = regexp.MustCompile(`^([a-zA-Z0-9]+)-([hH][eE][xX]|[bB][aA][sS][eE]64)$`)
	signatureFront = regexp.MustCompile(`^[sS][iI][gG]-[rR][sS][aA]-[sS][hH][aA]1-([hH][eE][xX]|[bB][aA][sS][eE]64)$`)
)

// bytesByWords are the bytes of a text's data, by the library.
func bytesByWords(encoding, data string) ([]byte, api.Errno) {
	var b []byte
	var err error
	if strings.EqualFold(encoding, "hex") {
		b, err = hex.DecodeString(data)
	} else if strings.ContainsAny(data, "\r\n") { // which the library passes over
		return nil, api.ErrEncoding
	} else {
		b, err = base64.StdEncoding.Strict().DecodeString(data)
	}
	if err != nil {
		return nil, api.ErrEncoding
	}
	return b, api.OK
}

// ofByWords is what the chapter's words say of Of; what a key's bytes are layer 7 tells, the normal text the library.
func ofByWords(text string) (api.Principal, api.Errno) {
	if len(text) > 65536 {
		return api.Principal{}, api.ErrLimit
	}
	if text == "POLICY" {
		return api.Principal{Kind: 3, Text: text}, api.OK
	}
	front, data, colon := strings.Cut(text, ":")
	pieces := keyFront.FindStringSubmatch(front)
	if !colon || pieces == nil {
		return api.Principal{Kind: 1, Text: text}, api.OK
	}
	if strings.ToLower(pieces[1]) != "rsa" {
		return api.Principal{}, api.ErrUnsupported
	}
	b, e := bytesByWords(pieces[2], data)
	if e != api.OK {
		return api.Principal{}, e
	}
	k, e := der.Decode(b)
	switch {
	case e == api.ErrLimit:
		return api.Principal{}, api.ErrLimit
	case e != api.OK:
		return api.Principal{}, api.ErrKeyForm
	case !mayBe(bigOf(k.N), bigOf(k.E)):
		return api.Principal{}, api.ErrKey
	}
	return api.Principal{Kind: 2, Text: "rsa-hex:" + hex.EncodeToString(bytesOf(bigOf(k.N), bigOf(k.E))), Key: k}, api.OK
}

// mayBe is what chapter 8's words say of a key.
func mayBe(n, e *big.Int) bool {
	return n.Bit(0) == 1 && n.BitLen() >= 368 && n.BitLen() <= 4096 && e.Bit(0) == 1 && e.Cmp(small(3)) >= 0 && e.Cmp(n) < 0
}

// bigOf is the number of a list, by the library.
func bigOf(a []uint64) *big.Int {
	n := new(big.Int)
	for _, x := range slices.Backward(a) {
		n.Lsh(n, 64).Or(n, new(big.Int).SetUint64(x))
	}
	return n
}

// same: two principals are the same in all their parts.
func same(a, b api.Principal) bool {
	return a.Kind == b.Kind && a.Text == b.Text && slices.Equal(a.Key.N, b.Key.N) && slices.Equal(a.Key.E, b.Key.E)
}

// holds holds Of, Normal and Same of a text against the chapter's words, and tells Of's error.
func holds(t *testing.T, text string) api.Errno {
	t.Helper()
	want, e := ofByWords(text)
	tells(t, text, want, e)
	return e
}

// tells: Of tells just this principal, or just this error, and Normal and Same what follows from it.
func tells(t *testing.T, text string, want api.Principal, e api.Errno) {
	t.Helper()
	if got, err := names.Of(text); err != e || !same(got, want) {
		t.Fatalf("Of(%.120q of %d bytes): %.200v, error %d, want %.200v, error %d", text, len(text), got, err, want, e)
	}
	if got, err := names.Normal(text); err != e || got != want.Text {
		t.Fatalf("Normal(%.120q of %d bytes): %.120q, error %d, want %.120q, error %d", text, len(text), got, err, want.Text, e)
	}
	if got := names.Same(text, text); got != (e == api.OK) {
		t.Fatalf("Same of %.120q and itself: %t", text, got)
	}
}

// refuses: Of answers this error, and nothing beside it.
func refuses(t *testing.T, text string, e api.Errno) {
	t.Helper()
	tells(t, text, api.Principal{}, e)
}

// isOpaque: Of tells that somebody is known by this text alone.
func isOpaque(t *testing.T, text string) {
	t.Helper()
	tells(t, text, api.Principal{Kind: 1, Text: text}, api.OK)
}

// isKey: Of tells the holder of this key.
func isKey(t *testing.T, text string, n, e *big.Int) {
	t.Helper()
	tells(t, text, api.Principal{Kind: 2, Text: "rsa-hex:" + hex.EncodeToString(bytesOf(n, e)), Key: keyOf(n, e)}, api.OK)
}

// signatureByWords is what the chapter's words say of Signature.
func signatureByWords(text string) (string, []byte, api.Errno) {
	if len(text) > 65536 {
		return "", nil, api.ErrLimit
	}
	front, data, colon := strings.Cut(text, ":")
	pieces := signatureFront.FindStringSubmatch(front)
	if !colon || pieces == nil {
		return "", nil, api.ErrUnsupported
	}
	b, e := bytesByWords(pieces[1], data)
	if e != api.OK {
		return "", nil, e
	}
	return front + ":", b, api.OK
}

// signs holds Signature against the chapter's words, and tells its error.
func signs(t *testing.T, text string) api.Errno {
	t.Helper()
	front, b, e := signatureByWords(text)
	isSignature(t, text, front, b, e)
	return e
}

// isSignature: Signature tells just this.
func isSignature(t *testing.T, text, front string, b []byte, e api.Errno) {
	t.Helper()
	if front1, b1, e1 := names.Signature(text); front1 != front || !bytes.Equal(b1, b) || e1 != e {
		t.Fatalf("Signature(%.120q of %d bytes): %.120q, %.100x, error %d, want %.120q, %.100x, error %d", text, len(text), front1, b1, e1, front, b, e)
	}
}

// noSignature: Signature answers this error, and nothing beside it.
func noSignature(t *testing.T, text string, e api.Errno) {
	t.Helper()
	isSignature(t, text, "", nil, e)
}
