package der_test

import (
	"bytes"
	"math/big"
	"math/rand"
	"slices"
	"testing"

	"vouch/api"
	"vouch/der"
)

// encodes: Encode tells just these bytes.
func encodes(t *testing.T, k api.Key, want []byte) {
	t.Helper()
	if got, e := der.Encode(k); e != api.OK || !bytes.Equal(got, want) {
		t.Fatalf("Encode(%x): %x, error %d, want %x", k, got, e, want)
	}
}

// isKey: Decode tells just this key.
func isKey(t *testing.T, b []byte, n, e *big.Int) {
	t.Helper()
	if k, err := der.Decode(b); err != api.OK || !isNumber(k.N, n) || !isNumber(k.E, e) {
		t.Fatalf("Decode(%x): %x, error %d, want %x and %x", b, k, err, n, e)
	}
}

// isNoKey: Decode tells just this error.
func isNoKey(t *testing.T, b []byte, want api.Errno) {
	t.Helper()
	if k, e := der.Decode(b); e != want || len(k.N) > 0 || len(k.E) > 0 {
		t.Fatalf("Decode(%.40x of %d bytes): %x, error %d, want error %d and nothing", b, len(b), k, e, want)
	}
}

// The chapter's examples of keys.
func TestExamplesOfKeys(t *testing.T) {
	key := []byte{0x30, 0x06, 0x02, 0x01, 0x05, 0x02, 0x01, 0x03}
	encodes(t, keyOf(small(5), small(3)), key)
	isKey(t, key, small(5), small(3))
	zero := []byte{0x30, 0x07, 0x02, 0x02, 0x00, 0x80, 0x02, 0x01, 0x00}
	encodes(t, keyOf(small(128), small(0)), zero)
	isKey(t, zero, small(128), small(0))
	wide := slices.Concat([]byte{0x30, 0x81, 0x89, 0x02, 0x81, 0x81, 0x00, 0x80}, make([]byte, 127), []byte{0x02, 0x03, 0x01, 0x00, 0x01})
	encodes(t, keyOf(power(1023), small(65537)), wide)
	isKey(t, wide, power(1023), small(65537))
	if len(wide) != 140 {
		t.Errorf("%d bytes", len(wide))
	}
	isNoKey(t, slices.Concat([]byte{0x31}, key[1:]), api.ErrTag)
	isNoKey(t, slices.Concat(key, []byte{0x00}), api.ErrLong)
	isNoKey(t, []byte{0x30, 0x03, 0x02, 0x01, 0x05}, api.ErrShort)
	isNoKey(t, []byte{0x30, 0x06, 0x02, 0x01, 0x05, 0x03, 0x01, 0x03}, api.ErrTag)
	isNoKey(t, []byte{0x30, 0x08, 0x02, 0x01, 0x05, 0x02, 0x01, 0x03, 0x05, 0x00}, api.ErrLong)
}

// P7.3, P7.4: keys of numbers of all kinds, both in turn, as the library tells them.
func TestKeys(t *testing.T) {
	list := numbers()
	for _, n := range list {
		for _, e := range list {
			b := bytesOf(t, n, e)
			encodes(t, keyOf(n, e), b)
			isKey(t, b, n, e)
		}
	}
}

// P7.3, P7.4: keys of numbers of all sizes, so of items of all lengths.
func TestSizes(t *testing.T) {
	r := rand.New(rand.NewSource(141))
	for bits := range keyBits + 1 {
		n := number(r, bits)
		for _, e := range []*big.Int{small(65537), number(r, r.Intn(keyBits+1))} {
			encodes(t, keyOf(n, e), bytesOf(t, n, e))
			encodes(t, keyOf(e, n), bytesOf(t, e, n))
			isKey(t, bytesOf(t, n, e), n, e)
			isKey(t, bytesOf(t, e, n), e, n)
		}
	}
}

// P7.4: the greatest key, and the least; nil and empty lists are the same.
func TestGreatestAndLeast(t *testing.T) {
	most := plus(power(keyBits), -1)
	b, e := der.Encode(keyOf(most, most))
	if e != api.OK || len(b) != 4+2*(4+513) || !bytes.HasPrefix(b, []byte{0x30, 0x82, 0x04, 0x0a, 0x02, 0x82, 0x02, 0x01, 0x00, 0xff}) {
		t.Errorf("the greatest key: %d bytes, error %d, %.20x", len(b), e, b)
	}
	isKey(t, b, most, most)
	least := []byte{0x30, 0x06, 0x02, 0x01, 0x00, 0x02, 0x01, 0x00}
	for _, zero := range [][]uint64{nil, {}, {0}, {0, 0}, make([]uint64, 200)} {
		encodes(t, api.Key{N: zero}, least)
		encodes(t, api.Key{E: zero}, least)
		encodes(t, api.Key{N: zero, E: zero}, least)
	}
	isKey(t, least, small(0), small(0))
}

// P7.4: numbers that are not in their form, in lists of any length.
func TestNotInForm(t *testing.T) {
	for _, n := range numbers() {
		for _, zeros := range []int{1, 2, 63, 64, 65, 127, 128, 129, 1000} {
			k := keyOf(n, small(3))
			encodes(t, api.Key{N: padded(k.N, zeros), E: k.E}, bytesOf(t, n, small(3)))
			encodes(t, api.Key{N: k.E, E: padded(k.N, zeros)}, bytesOf(t, small(3), n))
			encodes(t, api.Key{N: padded(k.N, zeros), E: padded(k.N, 1)}, bytesOf(t, n, n))
		}
	}
}

// P7.4: numbers of more bits than a key's number has, in one place or in both.
func TestKeysPastTheLimit(t *testing.T) {
	r := rand.New(rand.NewSource(142))
	great := []*big.Int{power(keyBits), plus(power(keyBits), 1), plus(power(keyBits+1), -1), plus(power(mostBits), -1), power(mostBits), plus(power(mostBits), 1), power(20000)}
	for _, bits := range []int{keyBits + 1, keyBits + 2, keyBits + 8, keyBits + 64, mostBits, mostBits + 1, 3 * mostBits} {
		great = append(great, number(r, bits))
	}
	for _, n := range great {
		for _, zeros := range []int{0, 1, 200} {
			a := padded(listOf(n), zeros)
			for _, k := range []api.Key{{N: a}, {E: a}, {N: a, E: a}, {N: a, E: []uint64{3}}, {N: []uint64{5}, E: a}, {N: padded(nil, 300), E: a}} {
				if b, e := der.Encode(k); e != api.ErrLimit || len(b) > 0 {
					t.Fatalf("Encode of a key of %d bits: %.40x, error %d", n.BitLen(), b, e)
				}
			}
		}
	}
}

// P7.3: no bytes, and few.
func TestFewKeyBytes(t *testing.T) {
	isNoKey(t, nil, api.ErrShort)
	isNoKey(t, []byte{}, api.ErrShort)
	for n := range 5 {
		all(few, n, func(b []byte) { decode(t, b) })
	}
	for n := range 5 {
		all(few, n, func(b []byte) { decode(t, laid(0x30, b)) })
	}
}

// P7.3: all contents of a key of the bytes of which the least keys are made.
func TestFewKeyContents(t *testing.T) {
	met := map[api.Errno]int{}
	for n := range 9 {
		all([]byte{0x00, 0x01, 0x02, 0x80}, n, func(b []byte) { met[decode(t, laid(0x30, b))]++ })
	}
	for _, e := range []api.Errno{api.OK, api.ErrShort, api.ErrTag, api.ErrLength, api.ErrInteger, api.ErrLong} {
		if met[e] < 20 {
			t.Errorf("error %d was met %d times", e, met[e])
		}
	}
}

// P7.3: another tag, at each of the three places.
func TestOtherTags(t *testing.T) {
	n, e := contentOf(small(5)), contentOf(small(300))
	for tag := range 256 {
		want := [3]api.Errno{api.ErrTag, api.ErrTag, api.ErrTag}
		if tag == 0x30 {
			want[0] = api.OK
		}
		if tag == 0x02 {
			want[1], want[2] = api.OK, api.OK
		}
		c := byte(tag)
		for i, b := range [][]byte{laid(c, laid(0x02, n), laid(0x02, e)), laid(0x30, laid(c, n), laid(0x02, e)), laid(0x30, laid(0x02, n), laid(c, e))} {
			fails(t, "a tag", decode(t, b), want[i])
		}
	}
}

// P7.3: something stands behind each of the three items.
func TestBehindItems(t *testing.T) {
	n, e := laid(0x02, contentOf(small(5))), laid(0x02, contentOf(small(300)))
	r := rand.New(rand.NewSource(143))
	for c := range 256 {
		more := []byte{byte(c)}
		isNoKey(t, slices.Concat(laid(0x30, n, e), more), api.ErrLong)
		isNoKey(t, laid(0x30, n, e, more), api.ErrLong)
		if c != 0x02 {
			isNoKey(t, laid(0x30, n, more, e), api.ErrTag)
		}
	}
	for _, more := range [][]byte{laid(0x02, []byte{1}), laid(0x05), laid(0x30, n, e), {0x02, 0x01}, {0x80, 0x80}, make([]byte, 70000), drawn(r, 1000)} {
		isNoKey(t, slices.Concat(laid(0x30, n, e), more), api.ErrLong)
		isNoKey(t, laid(0x30, n, e, more), api.ErrLong)
	}
	isNoKey(t, laid(0x30, n, laid(0x05), e), api.ErrTag)
	isNoKey(t, slices.Concat(laid(0x30, n), e), api.ErrLong)
}

// P7.3: items or their parts are missing, with the outer length as it was or told anew.
func TestMissing(t *testing.T) {
	n, e := laid(0x02, contentOf(power(1500))), laid(0x02, contentOf(small(300)))
	content := slices.Concat(n, e)
	for end := range len(content) {
		isNoKey(t, laid(0x30, content[:end]), api.ErrShort)
	}
	whole := laid(0x30, content)
	for end := range len(whole) {
		isNoKey(t, whole[:end], api.ErrShort)
	}
}

// P7.3: lengths that may not be, at each of the three places.
func TestWrongLengths(t *testing.T) {
	n, e := laid(0x02, []byte{5}), laid(0x02, []byte{3})
	for _, length := range [][]byte{{0x80}, {0x81, 0x01}, {0x82, 0x00, 0x01}, {0x83, 0x00, 0x00, 0x01}, {0x84, 0x00, 0x00, 0x00, 0x01}, {0x85, 0x00, 0x00, 0x00, 0x00, 0x01}, {0xff}} {
		wrong := slices.Concat([]byte{0x02}, length, []byte{5})
		isNoKey(t, laid(0x30, wrong, e), api.ErrLength)
		isNoKey(t, laid(0x30, n, wrong), api.ErrLength)
	}
	for _, length := range [][]byte{{0x80}, {0x81, 0x06}, {0x82, 0x00, 0x06}, {0x83, 0x00, 0x00, 0x06}, {0x84, 0x00, 0x00, 0x00, 0x06}, {0x85, 0x00, 0x00, 0x00, 0x00, 0x06}, {0xff}} {
		isNoKey(t, slices.Concat([]byte{0x30}, length, n, e), api.ErrLength)
	}
	isNoKey(t, laid(0x30, n, []byte{0x02, 0x84, 0xff, 0xff, 0xff, 0xff, 0x01}), api.ErrShort)
	isNoKey(t, []byte{0x30, 0x84, 0xff, 0xff, 0xff, 0xff, 0x01}, api.ErrShort)
}

// P7.3: contents that are no integer's, or too great, at both places.
func TestWrongIntegers(t *testing.T) {
	good := laid(0x02, []byte{5})
	past := contentOf(power(keyBits))
	for _, x := range []struct {
		content []byte
		want    api.Errno
	}{
		{nil, api.ErrInteger}, {[]byte{0x80}, api.ErrInteger}, {[]byte{0xff, 0xff}, api.ErrInteger}, {[]byte{0, 0}, api.ErrInteger}, {[]byte{0, 0x7f}, api.ErrInteger}, {[]byte{0, 0, 0x80}, api.ErrInteger},
		{past, api.ErrLimit}, {contentOf(power(mostBits)), api.ErrLimit}, {slices.Concat([]byte{0}, past), api.ErrInteger}, {slices.Repeat([]byte{0xff}, 600), api.ErrInteger},
	} {
		isNoKey(t, laid(0x30, laid(0x02, x.content), good), x.want)
		isNoKey(t, laid(0x30, good, laid(0x02, x.content)), x.want)
		isNoKey(t, laid(0x30, laid(0x02, x.content), laid(0x02, x.content)), x.want)
	}
}

// P7.3: keys of which one byte was changed, put in, left out, or a piece doubled.
func TestChangedKeys(t *testing.T) {
	r := rand.New(rand.NewSource(144))
	met := map[api.Errno]int{}
	for _, n := range []*big.Int{small(5), small(128), number(r, 1008), number(r, 1024), number(r, 2048), power(keyBits - 1)} {
		whole := bytesOf(t, n, small(65537))
		for at := range min(len(whole), 30) {
			for c := range 256 {
				b := slices.Clone(whole)
				b[at] = byte(c)
				met[decode(t, b)]++
				met[decode(t, slices.Insert(slices.Clone(whole), at, byte(c)))]++
			}
		}
		for at := range whole {
			met[decode(t, slices.Delete(slices.Clone(whole), at, at+1))]++
			end := at + 1 + r.Intn(len(whole)-at)
			met[decode(t, slices.Insert(slices.Clone(whole), at, whole[at:end]...))]++
		}
	}
	for _, e := range []api.Errno{api.OK, api.ErrShort, api.ErrTag, api.ErrLength, api.ErrInteger, api.ErrLong} {
		if met[e] < 10 {
			t.Errorf("error %d was met %d times", e, met[e])
		}
	}
}

// P7.3: two integers' items of drawn bytes in a key's item, some of them of another tag or with something behind.
func TestDrawnKeys(t *testing.T) {
	r := rand.New(rand.NewSource(145))
	part := func() []byte {
		content := drawn(r, r.Intn(5))
		if r.Intn(20) == 0 {
			content = drawn(r, 500+r.Intn(30))
		}
		if len(content) > 0 && r.Intn(4) > 0 {
			content[0] &= 0x7f
		}
		tag := byte(0x02)
		if r.Intn(12) == 0 {
			tag = byte(r.Intn(256))
		}
		return laid(tag, content)
	}
	met := map[api.Errno]int{}
	for range 20000 {
		content := slices.Concat(part(), part())
		if r.Intn(8) == 0 {
			content = append(content, drawn(r, 1+r.Intn(3))...)
		}
		if r.Intn(8) == 0 {
			content = content[:r.Intn(len(content))]
		}
		met[decode(t, laid(0x30, content))]++
		decode(t, content)
	}
	for _, e := range []api.Errno{api.OK, api.ErrShort, api.ErrTag, api.ErrInteger, api.ErrLong, api.ErrLimit} {
		if met[e] < 100 {
			t.Errorf("error %d was met %d times", e, met[e])
		}
	}
}
