package der_test

import (
	"fmt"
	"math"
	"math/rand"
	"slices"
	"testing"

	"vouch/api"
	"vouch/der"
)

// The chapter's examples of Item.
func TestExamplesOfItem(t *testing.T) {
	key := []byte{0x30, 0x06, 0x02, 0x01, 0x05, 0x02, 0x01, 0x03}
	for _, x := range []struct {
		b        []byte
		at       int
		tag      byte
		from, to int
		e        api.Errno
	}{
		{key, 0, 0x30, 2, 8, api.OK},
		{key, 2, 0x02, 4, 5, api.OK},
		{key, 8, 0, 0, 0, api.ErrShort},
		{key, 9, 0, 0, 0, api.ErrArg},
		{key, -1, 0, 0, 0, api.ErrArg},
		{[]byte{0x30}, 0, 0, 0, 0, api.ErrShort},
		{[]byte{0x30, 0x80}, 0, 0, 0, 0, api.ErrLength},
		{[]byte{0x30, 0x85}, 0, 0, 0, 0, api.ErrLength},
		{[]byte{0x30, 0x81}, 0, 0, 0, 0, api.ErrShort},
		{[]byte{0x30, 0x81, 0x7f}, 0, 0, 0, 0, api.ErrLength},
		{[]byte{0x30, 0x82, 0x00, 0x80}, 0, 0, 0, 0, api.ErrLength},
		{[]byte{0x30, 0x01}, 0, 0, 0, 0, api.ErrShort},
	} {
		if tag, from, to, e := der.Item(x.b, x.at); tag != x.tag || from != x.from || to != x.to || e != x.e {
			t.Errorf("Item(% x, %d): %02x, %d, %d, error %d", x.b, x.at, tag, from, to, e)
		}
		item(t, x.b, x.at)
	}
}

// tells: Item tells just this.
func tells(t *testing.T, b []byte, at int, tag byte, from, to int) {
	t.Helper()
	if tag1, from1, to1, e := der.Item(b, at); tag1 != tag || from1 != from || to1 != to || e != api.OK {
		t.Fatalf("Item(%.40x of %d bytes, %d): %02x, %d, %d, error %d, want %02x, %d, %d", b, len(b), at, tag1, from1, to1, e, tag, from, to)
	}
}

// refuses: Item tells just this error.
func refuses(t *testing.T, b []byte, at int, want api.Errno) {
	t.Helper()
	if tag, from, to, e := der.Item(b, at); tag != 0 || from != 0 || to != 0 || e != want {
		t.Fatalf("Item(%.40x of %d bytes, %d): %02x, %d, %d, error %d, want error %d and nothing", b, len(b), at, tag, from, to, e, want)
	}
}

// P7.1: no bytes, and places below 0, at the end, and behind it.
func TestPlaces(t *testing.T) {
	for _, b := range [][]byte{nil, {}, {0x30}, {0x30, 0x00}, {0x02, 0x01, 0x05}, make([]byte, 300)} {
		refuses(t, b, len(b), api.ErrShort)
		for _, at := range []int{-1, -2, -len(b) - 1, math.MinInt, math.MinInt + 1, math.MinInt32, len(b) + 1, len(b) + 2, 2*len(b) + 1, math.MaxInt32, math.MaxInt - 1, math.MaxInt} {
			refuses(t, b, at, api.ErrArg)
		}
		for at := range len(b) {
			if e := item(t, b, at); e == api.ErrArg {
				t.Fatalf("Item(%.40x, %d): ErrArg", b, at)
			}
		}
	}
	refuses(t, []byte{0x02, 0x01, 0x05, 0x02}, 3, api.ErrShort)
}

// P7.1: any byte may be a tag, and the content may be anything.
func TestTags(t *testing.T) {
	for tag := range 256 {
		b := []byte{0xff, byte(tag), 0x00, byte(tag), 0x02, 0x30, 0x81, 0x05}
		tells(t, b, 1, byte(tag), 3, 3)
		tells(t, b, 3, byte(tag), 5, 7)
		refuses(t, []byte{byte(tag)}, 0, api.ErrShort)
	}
}

// P7.1: lengths of one byte, with just as many bytes behind, with more, with fewer; behind other bytes, too.
func TestShortLengths(t *testing.T) {
	for n := range 0x80 {
		for _, at := range []int{0, 1, 130, 300} {
			b := make([]byte, at+2+n+2)
			b[at], b[at+1] = 0x04, byte(n)
			tells(t, b, at, 0x04, at+2, at+2+n)
			tells(t, b[:at+2+n+1], at, 0x04, at+2, at+2+n)
			tells(t, b[:at+2+n], at, 0x04, at+2, at+2+n)
			for fewer := range n {
				refuses(t, b[:at+2+fewer], at, api.ErrShort)
			}
		}
	}
}

// edges are lengths about those at which their forms change, and the greatest of the forms.
var edges = []uint64{0, 1, 126, 127, 128, 129, 254, 255, 256, 257, 65534, 65535, 65536, 65537, 1<<24 - 2, 1<<24 - 1, 1 << 24, 1<<24 + 1}

// P7.1: lengths of one to four bytes behind the first, as short as they can be or not, with as many bytes behind, with more, with fewer.
func TestLengths(t *testing.T) {
	const at = 3
	b := make([]byte, at+6+1<<24+10)
	for _, length := range edges {
		for n := 1; n <= 4; n++ {
			if length >= 1<<(8*n) {
				continue
			}
			copy(b[at:], slices.Concat([]byte{0x30}, lengthIn(n, length)))
			from := at + 2 + n
			to := from + int(length)
			if n+1 > len(lengthOf(length)) {
				for _, end := range []int{from, max(from, to-1), to, to + 1} {
					refuses(t, b[:end], at, api.ErrLength)
				}
				continue
			}
			for _, end := range []int{to, to + 1, len(b)} {
				tells(t, b[:end], at, 0x30, from, to)
			}
			for _, end := range []int{from, from + 1, from + int(length)/2, to - 1} {
				refuses(t, b[:end], at, api.ErrShort)
			}
		}
	}
}

// P7.1: lengths of 81 and one byte: all of them.
func TestLengthsOfOneByte(t *testing.T) {
	for length := range 256 {
		b := make([]byte, 3+255)
		b[0], b[1], b[2] = 0x02, 0x81, byte(length)
		if length < 0x80 {
			refuses(t, b, 0, api.ErrLength)
			refuses(t, b[:3], 0, api.ErrLength)
			continue
		}
		tells(t, b, 0, 0x02, 3, 3+length)
		tells(t, b[:3+length], 0, 0x02, 3, 3+length)
		refuses(t, b[:3+length-1], 0, api.ErrShort)
		refuses(t, b[:3], 0, api.ErrShort)
	}
}

// P7.1: lengths far past the bytes, up to the greatest that four bytes tell.
func TestGreatLengths(t *testing.T) {
	for _, length := range []uint64{1 << 24, 1<<24 + 1, 1<<31 - 8, 1<<31 - 1, 1 << 31, 1<<31 + 1, 1<<32 - 8, 1<<32 - 6, 1<<32 - 2, 1<<32 - 1} {
		b := slices.Concat([]byte{0x02}, lengthIn(4, length), make([]byte, 300))
		for _, end := range []int{6, 7, 20, len(b)} {
			refuses(t, b[:end], 0, api.ErrShort)
			refuses(t, slices.Concat([]byte{7, 7, 7}, b[:end]), 3, api.ErrShort)
		}
	}
}

// P7.1: a length's first byte that may not be is told ahead of bytes that are missing, and of bytes that are not short.
func TestFirstByte(t *testing.T) {
	firsts := []int{0x80}
	for first := 0x85; first < 0x100; first++ {
		firsts = append(firsts, first)
	}
	for _, first := range firsts {
		for n := range 10 {
			for _, c := range []byte{0x00, 0x01, 0x7f, 0x80, 0xff} {
				b := slices.Concat([]byte{0x30, byte(first)}, slices.Repeat([]byte{c}, n))
				refuses(t, b, 0, api.ErrLength)
				refuses(t, slices.Concat(b, make([]byte, 400)), 0, api.ErrLength)
			}
		}
	}
}

// P7.1: a length's other bytes that are missing are told ahead of those that are not short.
func TestMissingLength(t *testing.T) {
	for n := 1; n <= 4; n++ {
		for there := range n {
			for _, c := range []byte{0x00, 0x01, 0x7f, 0x80, 0xff} {
				b := slices.Concat([]byte{0x30, 0x80 + byte(n)}, slices.Repeat([]byte{c}, there))
				refuses(t, b, 0, api.ErrShort)
				refuses(t, slices.Concat([]byte{0x30}, b), 1, api.ErrShort)
			}
		}
	}
}

// P7.1: a length that is not as short as it can be is told ahead of content that is missing.
func TestNotShort(t *testing.T) {
	for n := 2; n <= 4; n++ {
		for _, worth := range []uint64{0, 1, 0x7f, 0x80, 0xff, 1<<(8*(n-1)) - 1} {
			if worth >= 1<<(8*(n-1)) {
				continue
			}
			b := slices.Concat([]byte{0x30}, lengthIn(n, worth))
			refuses(t, b, 0, api.ErrLength)
			refuses(t, append(b, make([]byte, 300)...), 0, api.ErrLength)
		}
	}
}

// P7.1: items within one another, and one behind the other.
func TestItemsInside(t *testing.T) {
	for _, n := range []int{0, 1, 127, 128, 255, 256, 65535, 65536} {
		inner := laid(0x04, make([]byte, n))
		head := len(inner) - n
		row := slices.Concat(inner, laid(0x05), inner)
		b := laid(0x31, row)
		at := len(b) - len(row)
		tells(t, b, 0, 0x31, at, len(b))
		tells(t, b, at, 0x04, at+head, at+len(inner))
		tells(t, b, at+len(inner), 0x05, at+len(inner)+2, at+len(inner)+2)
		tells(t, b, len(b)-len(inner), 0x04, len(b)-n, len(b))
		refuses(t, b, len(b), api.ErrShort)
	}
}

// few are bytes about which something is to be looked at.
var few = []byte{0x00, 0x01, 0x02, 0x03, 0x30, 0x7f, 0x80, 0x81, 0x82, 0x83, 0x84, 0x85, 0xff}

// P7.1: all lists of few bytes of those that are looked at, at all places, alone and with more behind.
func TestFewBytes(t *testing.T) {
	met := map[api.Errno]int{}
	for n := range 6 {
		all(few, n, func(b []byte) {
			for at := -1; at <= len(b)+1; at++ {
				met[item(t, b, at)]++
			}
			item(t, slices.Concat(b, make([]byte, 131)), 0)
		})
	}
	for _, e := range []api.Errno{api.OK, api.ErrArg, api.ErrShort, api.ErrLength} {
		if met[e] < 1000 {
			t.Errorf("error %d was met %d times", e, met[e])
		}
	}
}

// P7.1: drawn bytes, at all places.
func TestDrawnItems(t *testing.T) {
	r := rand.New(rand.NewSource(121))
	for range 3000 {
		b := drawn(r, r.Intn(400))
		for i := range b {
			if r.Intn(3) == 0 {
				b[i] = few[r.Intn(len(few))]
			}
		}
		for at := -2; at < len(b)+3; at++ {
			item(t, b, at)
		}
	}
}

// The words by which Item is looked at are those of the chapter's: a length as short as it can be is one text.
func TestLengthsByWords(t *testing.T) {
	for _, x := range []struct {
		n    uint64
		want string
	}{{0, "00"}, {127, "7f"}, {128, "8180"}, {255, "81ff"}, {256, "820100"}, {65535, "82ffff"}, {65536, "83010000"}, {1<<24 - 1, "83ffffff"}, {1 << 24, "8401000000"}, {1<<32 - 1, "84ffffffff"}} {
		if got := fmt.Sprintf("%x", lengthOf(x.n)); got != x.want {
			t.Errorf("length %d: %s", x.n, got)
		}
	}
}
