package names_test

import (
	"encoding/hex"
	"math/big"
	"math/rand"
	"slices"
	"strings"
	"testing"

	"vouch/api"
)

// texts are all ways to name what has these bytes.
func texts(r *rand.Rand, b []byte) []string {
	h := hex.EncodeToString(b)
	return []string{"rsa-hex:" + h, "RSA-HEX:" + strings.ToUpper(h), mixed(r, "rsa-hex:"+h), "rsa-base64:" + inBase64(b), mixed(r, "rsa-base64:") + inBase64(b)}
}

// P9.1: keys of all sizes at which something begins or ends are told, whatever they are written in.
func TestKeys(t *testing.T) {
	r := rand.New(rand.NewSource(81))
	for _, bits := range []int{368, 369, 375, 376, 377, 383, 384, 385, 447, 448, 449, 511, 512, 513, 1007, 1008, 1015, 1016, 1023, 1024, 1025, 2039, 2040, 2047, 2048, 4087, 4088, 4089, 4095, 4096} {
		for _, n := range []*big.Int{odd(r, bits), plus(power(bits-1), 1), plus(power(bits), -1)} {
			for _, e := range []*big.Int{small(3), small(5), small(127), small(129), small(255), small(257), small(65537), plus(power(64), 1), odd(r, 300), plus(n, -2)} {
				for _, text := range texts(r, bytesOf(n, e)) {
					isKey(t, text, n, e)
				}
			}
		}
	}
}

// P9.1: keys that are read but may not be.
func TestNoKeys(t *testing.T) {
	r := rand.New(rand.NewSource(82))
	good := plus(power(511), 1)
	for _, x := range [][2]*big.Int{
		{small(0), small(0)}, {small(0), small(3)}, {small(1), small(3)}, {small(5), small(3)}, {small(15), small(3)}, {plus(power(366), 1), small(3)}, {plus(power(367), -1), small(3)}, {power(367), small(3)},
		{plus(good, 1), small(3)}, {plus(power(4096), -2), small(3)}, {power(4095), small(65537)},
		{good, small(0)}, {good, small(1)}, {good, small(2)}, {good, small(4)}, {good, small(65536)}, {good, plus(good, -1)}, {good, good}, {good, plus(good, 2)}, {good, plus(power(600), 1)}, {good, plus(power(4096), -1)}, {plus(power(4096), -1), plus(power(4096), -1)},
	} {
		for _, text := range texts(r, bytesOf(x[0], x[1])) {
			refuses(t, text, api.ErrKey)
		}
	}
	isKey(t, texts(r, bytesOf(plus(power(367), 1), small(3)))[0], plus(power(367), 1), small(3))
}

// P9.1: a number of more than 4096 bits is past a limit, in either place, whatever else holds of the key.
func TestGreatKeys(t *testing.T) {
	r := rand.New(rand.NewSource(83))
	good := plus(power(511), 1)
	for _, great := range []*big.Int{power(4096), plus(power(4096), 1), plus(power(4097), -1), power(4103), power(4104), plus(power(8191), 1), power(8192), plus(power(10000), 1), plus(power(100000), 1)} {
		for _, x := range [][2]*big.Int{{great, small(3)}, {great, small(0)}, {good, great}, {small(15), great}, {plus(good, 1), great}, {great, great}} {
			for _, text := range texts(r, bytesOf(x[0], x[1])) {
				refuses(t, text, api.ErrLimit)
			}
		}
	}
}

// forms are bytes that are no key's, though each is nearly those of a key that may be.
func forms() map[string][]byte {
	n, e := hexNumber(exampleN), small(3)
	one, two, none := integer(n, 0), integer(e, 0), []byte{}
	whole := laid(0x30, one, two)
	long := slices.Concat([]byte{0x30, 0x81, 0x46}, whole[2:])
	negative := unhexed("02" + "40" + exampleN)
	return map[string][]byte{
		"no bytes": none, "one byte": {0x30}, "a byte less": whole[:len(whole)-1], "half": whole[:len(whole)/2], "a byte behind": append(slices.Clone(whole), 0), "a key behind": slices.Concat(whole, whole),
		"another tag": append([]byte{0x31}, whole[1:]...), "N's other tag": laid(0x30, append([]byte{0x03}, one[1:]...), two), "E's other tag": laid(0x30, one, append([]byte{0x04}, two[1:]...)),
		"a nought ahead of N": laid(0x30, integer(n, 1), two), "noughts ahead of N": laid(0x30, integer(n, 5), two), "a nought ahead of E": laid(0x30, one, integer(e, 1)), "noughts ahead of both": laid(0x30, integer(n, 1), integer(e, 2)),
		"an N below 0": laid(0x30, negative, two), "an E below 0": laid(0x30, one, []byte{0x02, 0x01, 0x83}), "no content for N": laid(0x30, []byte{0x02, 0x00}, two), "no content for E": laid(0x30, one, []byte{0x02, 0x00}),
		"nothing": laid(0x30), "N alone": laid(0x30, one), "E behind": append(laid(0x30, one), two...), "three numbers": laid(0x30, one, two, two), "a byte behind both": laid(0x30, one, two, []byte{0}), "null behind both": laid(0x30, one, two, []byte{0x05, 0x00}),
		"a longer length": long, "no length": append([]byte{0x30, 0x80}, whole[2:]...), "a length too great": append([]byte{0x30, 0x47}, whole[2:]...), "a length too small": append([]byte{0x30, 0x45}, whole[2:]...), "a length of five bytes": append([]byte{0x30, 0x85, 0, 0, 0, 0, 0x46}, whole[2:]...),
		"within another": laid(0x30, whole), "N itself": one, "N's bytes": n.Bytes(),
	}
}

// P9.1: bytes that are no key's; noughts ahead are none of a number's.
func TestForms(t *testing.T) {
	r := rand.New(rand.NewSource(84))
	for name, b := range forms() {
		for _, text := range texts(r, b) {
			t.Run(name, func(t *testing.T) { refuses(t, text, api.ErrKeyForm) })
		}
	}
}

// P9.1: each beginning of a key's bytes, and each byte of them changed.
func TestNearKeys(t *testing.T) {
	r := rand.New(rand.NewSource(85))
	count := map[api.Errno]int{}
	for _, x := range [][2]*big.Int{{odd(r, 368), small(3)}, {odd(r, 1024), small(65537)}} {
		whole := bytesOf(x[0], x[1])
		for at := range whole {
			refuses(t, "rsa-hex:"+hex.EncodeToString(whole[:at]), api.ErrKeyForm)
			refuses(t, "rsa-base64:"+inBase64(whole[:at]), api.ErrKeyForm)
			for _, turn := range []byte{0x01, 0x02, 0x40, 0x80, 0xff} {
				b := slices.Clone(whole)
				b[at] ^= turn
				for _, text := range texts(r, b) {
					count[holds(t, text)]++
				}
			}
		}
	}
	if count[api.OK] < 1000 || count[api.ErrKeyForm] < 100 || count[api.ErrKey] < 20 {
		t.Errorf("%v", count)
	}
}

// P9.1: of two errors that hold at once the one is told that stands first.
func TestOrder(t *testing.T) {
	r := rand.New(rand.NewSource(86))
	great, good, three := plus(power(4096), 1), plus(power(511), 1), integer(small(3), 0)
	in := func(b []byte) string { return hex.EncodeToString(b) }
	past := strings.Repeat("0", 65536)
	for text, e := range map[string]api.Errno{
		// the text's length, and each of the others
		"dsa-hex:" + past:                             api.ErrLimit,
		"rsa-hex:" + past + "0":                       api.ErrLimit,
		"rsa-hex:" + past:                             api.ErrLimit,
		"rsa-base64:" + past:                          api.ErrLimit,
		"rsa-hex:3006020105020103" + past:             api.ErrLimit,
		"rsa-hex:" + in(bytesOf(great, great)) + past: api.ErrLimit,
		// another algorithm, and each of the others
		"dsa-hex:0": api.ErrUnsupported, "dsa-base64:0": api.ErrUnsupported, "dsa-hex:": api.ErrUnsupported, "dsa-hex:3006020105020103": api.ErrUnsupported,
		"dsa-hex:" + in(bytesOf(great, small(3))): api.ErrUnsupported,
		"dsa-hex:" + exampleHex:                   api.ErrUnsupported,
		// an encoding, and what is wrong of the bytes ahead of where it is
		"rsa-hex:3006020105020103" + "0":                api.ErrEncoding,
		"rsa-hex:00" + "zz":                             api.ErrEncoding,
		"rsa-hex:" + in(bytesOf(great, small(3))) + "0": api.ErrEncoding,
		// a number past the limit, and bytes that are wrong behind it; or ahead
		"rsa-hex:" + in(laid(0x30, integer(great, 0))):                          api.ErrLimit,
		"rsa-hex:" + in(laid(0x30, integer(great, 0), []byte{0x03})):            api.ErrLimit,
		"rsa-hex:" + in(laid(0x30, integer(great, 0), three, three)):            api.ErrLimit,
		"rsa-hex:" + in(laid(0x30, integer(good, 0), integer(great, 0), three)): api.ErrLimit,
		"rsa-hex:" + in(laid(0x30, integer(great, 1), three)):                   api.ErrKeyForm,
		"rsa-hex:" + in(laid(0x30, integer(good, 1), integer(great, 0))):        api.ErrKeyForm,
		"rsa-hex:" + in(append(laid(0x30, integer(great, 0), three), 0)):        api.ErrKeyForm,
		"rsa-hex:" + in(laid(0x31, integer(great, 0), three)):                   api.ErrKeyForm,
		// a number past the limit, and a key that may not be
		"rsa-hex:" + in(bytesOf(plus(great, 1), small(2))): api.ErrLimit,
		"rsa-hex:" + in(bytesOf(small(15), great)):         api.ErrLimit,
		// bytes that are no key's, and a key that may not be
		"rsa-hex:300602010502010300":                                    api.ErrKeyForm,
		"rsa-hex:" + in(laid(0x30, integer(small(5), 1), three)):        api.ErrKeyForm,
		"rsa-hex:" + in(laid(0x30, integer(small(4), 0), three, three)): api.ErrKeyForm,
	} {
		refuses(t, text, e)
		refuses(t, mixed(r, text), e)
	}
}
