package der_test

import (
	"bytes"
	"math/big"
	"math/rand"
	"slices"
	"testing"

	"vouch/api"
	"vouch/der"
)

// again: what Decode reads, Encode tells again; it tells whether it was read.
func again(t *testing.T, b []byte) bool {
	t.Helper()
	k, e := der.Decode(b)
	if e != api.OK {
		return false
	}
	if got, e := der.Encode(k); e != api.OK || !bytes.Equal(got, b) {
		t.Fatalf("Encode of Decode(%x): %x, error %d", b, got, e)
	}
	return true
}

// P7.5: Decode of Encode is the key, in its forms.
func TestThereAndBack(t *testing.T) {
	r := rand.New(rand.NewSource(151))
	for range 3000 {
		n, e := number(r, r.Intn(keyBits+1)), number(r, r.Intn([]int{10, 100, keyBits + 1}[r.Intn(3)]))
		b, err := der.Encode(api.Key{N: padded(listOf(n), r.Intn(3)), E: padded(listOf(e), r.Intn(3))})
		fails(t, "Encode", err, api.OK)
		isKey(t, b, n, e)
		tells(t, b, 0, 0x30, len(b)-len(laid(0x02, contentOf(n)))-len(laid(0x02, contentOf(e))), len(b))
	}
}

// P7.5: what Decode reads, Encode tells again: of keys' bytes that were changed, of drawn ones, of few bytes.
func TestBackAndThere(t *testing.T) {
	r := rand.New(rand.NewSource(152))
	read := 0
	for range 40000 {
		b := bytesOf(t, number(r, r.Intn(200)), number(r, r.Intn(30)))
		if r.Intn(20) == 0 {
			b = bytesOf(t, number(r, 1000+r.Intn(50)), small(3))
		}
		for range r.Intn(3) {
			b[r.Intn(len(b))] = byte(r.Intn(256))
		}
		if again(t, b) {
			read++
		}
	}
	if read < 10000 {
		t.Errorf("%d were read", read)
	}
}

// P7.5: no two keys have the same bytes, and no two texts of bytes are one key.
func TestUnlike(t *testing.T) {
	list := numbers()
	for n := range int64(300) {
		list = append(list, small(n))
	}
	slices.SortFunc(list, (*big.Int).Cmp)
	list = slices.CompactFunc(list, func(a, b *big.Int) bool { return a.Cmp(b) == 0 })
	met := map[string]int{}
	for _, n := range list {
		for _, e := range list {
			b, err := der.Encode(keyOf(n, e))
			fails(t, "Encode", err, api.OK)
			met[string(b)]++
		}
	}
	if len(met) != len(list)*len(list) {
		t.Errorf("%d keys have %d texts of bytes", len(list)*len(list), len(met))
	}
}

// P7.5: of all contents of few bytes as many are read as there are keys of that length.
func TestHowMany(t *testing.T) {
	letters := []byte{0x00, 0x01, 0x02, 0x03, 0x80} // the tag and each length are among them
	keys := map[int]int{}                           // by the content's length
	for n := 1; n <= 3; n++ {
		for e := 1; e <= 3; e++ {
			keys[4+n+e] += contents(letters, n) * contents(letters, e)
		}
	}
	for n := range 9 {
		read := 0
		all(letters, n, func(b []byte) {
			if again(t, laid(0x30, b)) {
				read++
			}
		})
		if read != keys[n] {
			t.Errorf("of %d bytes %d keys are read, want %d", n, read, keys[n])
		}
	}
}

// contents is how many integers have contents of n such bytes.
func contents(letters []byte, n int) int {
	met := 0
	all(letters, n, func(b []byte) {
		if bytes.Equal(b, contentOf(new(big.Int).SetBytes(b))) {
			met++
		}
	})
	return met
}

// P7.5: no proper beginning of a key's bytes is a key's bytes, and nothing that goes on behind one.
func TestBeginnings(t *testing.T) {
	r := rand.New(rand.NewSource(153))
	for _, n := range numbers() {
		for _, e := range []*big.Int{small(0), small(3), number(r, 1024)} {
			b := bytesOf(t, n, e)
			for end := range b {
				isNoKey(t, b[:end], api.ErrShort)
			}
			for _, more := range [][]byte{{0}, {0x02}, {0x30}, {0xff}, b, b[:1], b[1:], drawn(r, 1+r.Intn(2000))} {
				isNoKey(t, slices.Concat(b, more), api.ErrLong)
			}
		}
	}
}

// What a call answers hangs on its arguments alone: asked again, behind calls that were refused at all depths, it is the same.
func TestAgain(t *testing.T) {
	r := rand.New(rand.NewSource(154))
	for range 300 {
		n, e := number(r, r.Intn(600)), number(r, r.Intn(40))
		b := bytesOf(t, n, e)
		encodes(t, keyOf(n, e), b)
		isKey(t, b, n, e)
		for _, f := range flaws() {
			isNoKey(t, laid(0x30, f.content), f.e)
			isNoKey(t, laid(0x30, laid(0x02, contentOf(n)), f.content), f.e)
			der.Item(f.content, r.Intn(5))
			der.Integer(f.content)
		}
		der.Encode(keyOf(n, power(keyBits)))
		encodes(t, keyOf(n, e), b)
		isKey(t, b, n, e)
		isRead(t, contentOf(n), n)
		tells(t, b, len(b)-len(laid(0x02, contentOf(e))), 0x02, len(b)-len(contentOf(e)), len(b))
	}
}
