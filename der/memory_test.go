package der_test

import (
	"bytes"
	"math/big"
	"math/rand"
	"slices"
	"testing"

	"vouch/api"
	"vouch/der"
)

const mark = 0xfeedfacefeedface

// roomy is a list with marked memory behind it.
func roomy(b []byte) []byte {
	return append(slices.Clone(b), bytes.Repeat([]byte{0xA5}, 200)...)[: len(b) : len(b)+200]
}

// roomyLimbs is the same of limbs.
func roomyLimbs(a []uint64) []uint64 {
	return append(slices.Clone(a), slices.Repeat([]uint64{mark}, 8)...)[: len(a) : len(a)+8]
}

// scribble writes over all the memory of a list, what lies behind its length included.
func scribble(b []byte) {
	b = b[:cap(b)]
	for i := range b {
		b[i] ^= 0x5A
	}
}

// scribbleLimbs is the same of limbs.
func scribbleLimbs(a []uint64) {
	a = a[:cap(a)]
	for i := range a {
		a[i] ^= mark
	}
}

// keys are numbers of a key, two by two.
func keys() [][2]*big.Int {
	r := rand.New(rand.NewSource(161))
	list := [][2]*big.Int{{small(0), small(0)}, {small(5), small(3)}, {small(128), small(0)}, {small(0), small(128)}, {small(255), small(255)}}
	for range 200 {
		list = append(list, [2]*big.Int{number(r, r.Intn(keyBits+1)), number(r, r.Intn(300))})
	}
	return list
}

// Bytes that are handed in are not changed, what lies behind them included, and not kept.
func TestBytesIn(t *testing.T) {
	for _, x := range keys() {
		whole, content := bytesOf(t, x[0], x[1]), contentOf(x[0])
		given, number := roomy(whole), roomy(content)
		k, e := der.Decode(given)
		fails(t, "Decode", e, api.OK)
		a, e := der.Integer(number)
		fails(t, "Integer", e, api.OK)
		for at := -1; at <= len(given)+1; at++ {
			der.Item(given, at)
		}
		if !bytes.Equal(given[:cap(given)], roomy(whole)[:cap(given)]) || !bytes.Equal(number[:cap(number)], roomy(content)[:cap(number)]) {
			t.Fatalf("%x: what is handed in is changed", whole)
		}
		scribble(given)
		scribble(number)
		if !isNumber(k.N, x[0]) || !isNumber(k.E, x[1]) || !isNumber(a, x[0]) {
			t.Fatalf("%x: what is handed in is kept", whole)
		}
	}
}

// Bytes that are refused are not changed either.
func TestRefusedBytes(t *testing.T) {
	for _, f := range flaws() {
		for _, b := range [][]byte{f.content, laid(0x30, f.content), laid(0x30, laid(0x02, []byte{5}), f.content)} {
			given := roomy(b)
			der.Decode(given)
			der.Integer(given)
			der.Item(given, 0)
			if !bytes.Equal(given[:cap(given)], roomy(b)[:cap(given)]) {
				t.Fatalf("%x: what is handed in is changed", b)
			}
		}
	}
}

// What lies behind a list's length does not count, even where it goes on as it should.
func TestBehind(t *testing.T) {
	for _, x := range keys()[:40] {
		whole := bytesOf(t, x[0], x[1])
		for end := range whole {
			isNoKey(t, whole[:end], api.ErrShort)
			refuses(t, whole[:end], 0, api.ErrShort)
		}
		content := contentOf(x[0])
		for end := range content {
			if got, want := integer(t, content[:end]), integer(t, slices.Clip(slices.Clone(content[:end]))); got != want {
				t.Fatalf("Integer(%x): what lies behind counts", content[:end])
			}
		}
		isKey(t, roomy(whole), x[0], x[1])
		isRead(t, roomy(content), x[0])
		k := keyOf(x[0], x[1])
		encodes(t, api.Key{N: roomyLimbs(k.N), E: roomyLimbs(k.E)}, whole)
	}
	for n := 1; n <= 4; n++ {
		b := slices.Concat([]byte{0x30}, lengthIn(n, 1<<(8*n-1)), make([]byte, 200))
		for end := range n + 2 {
			refuses(t, b[:end], 0, api.ErrShort)
		}
	}
}

// A key that is handed in is not changed, what lies behind its lists included, and not kept.
func TestKeyIn(t *testing.T) {
	for _, x := range keys() {
		for zeros := range 3 {
			k := keyOf(x[0], x[1])
			n, e := padded(k.N, zeros), padded(k.E, zeros)
			given := api.Key{N: roomyLimbs(n), E: roomyLimbs(e)}
			b, err := der.Encode(given)
			fails(t, "Encode", err, api.OK)
			if !slices.Equal(given.N[:cap(given.N)], roomyLimbs(n)[:cap(given.N)]) || !slices.Equal(given.E[:cap(given.E)], roomyLimbs(e)[:cap(given.E)]) {
				t.Fatalf("Encode(%x) changes what is handed in", k)
			}
			scribbleLimbs(given.N)
			scribbleLimbs(given.E)
			if !bytes.Equal(b, bytesOf(t, x[0], x[1])) {
				t.Fatalf("Encode(%x): the answer hangs on what was handed in", k)
			}
		}
		one := roomyLimbs(listOf(x[0]))
		encodes(t, api.Key{N: one, E: one}, bytesOf(t, x[0], x[0]))
	}
	past := roomyLimbs(listOf(power(keyBits)))
	der.Encode(api.Key{N: past, E: past})
	if !slices.Equal(past[:cap(past)], roomyLimbs(listOf(power(keyBits)))[:cap(past)]) {
		t.Error("Encode changes a key that it refuses")
	}
}

// Answers share no memory with one another, nor within themselves.
func TestAnswers(t *testing.T) {
	for _, x := range keys() {
		whole := bytesOf(t, x[0], x[1])
		first, _ := der.Encode(keyOf(x[0], x[1]))
		second, _ := der.Encode(keyOf(x[0], x[1]))
		scribble(first)
		if !bytes.Equal(second, whole) {
			t.Fatalf("%x: two answers of Encode share memory", whole)
		}
		one, _ := der.Decode(whole)
		two, _ := der.Decode(whole)
		scribbleLimbs(one.N)
		if !isNumber(one.E, x[1]) {
			t.Fatalf("%x: the numbers of an answer share memory", whole)
		}
		scribbleLimbs(one.E)
		a, _ := der.Integer(contentOf(x[0]))
		b, _ := der.Integer(contentOf(x[0]))
		scribbleLimbs(a)
		if !isNumber(two.N, x[0]) || !isNumber(two.E, x[1]) || !isNumber(b, x[0]) {
			t.Fatalf("%x: two answers share memory", whole)
		}
		encodes(t, keyOf(x[0], x[1]), whole)
		isKey(t, whole, x[0], x[1])
		isRead(t, contentOf(x[0]), x[0])
	}
}
