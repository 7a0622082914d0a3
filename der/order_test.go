package der_test

import (
	"slices"
	"testing"

	"vouch/api"
)

// flaw is a content of a key in which something is wrong, and the error that it makes.
type flaw struct {
	content []byte
	e       api.Errno
}

// flaws are items of an integer in which something is wrong: in one way, or in two of which the first one counts.
func flaws() []flaw {
	past := contentOf(power(keyBits))
	return []flaw{
		{nil, api.ErrShort},
		{[]byte{0x02}, api.ErrShort},
		{[]byte{0x03}, api.ErrShort},             // and another tag
		{[]byte{0x03, 0x05, 0x01}, api.ErrShort}, // and another tag
		{[]byte{0x02, 0x03, 0x80}, api.ErrShort}, // and no integer
		{[]byte{0x02, 0x80}, api.ErrLength},
		{[]byte{0x03, 0x80}, api.ErrLength},             // and another tag
		{[]byte{0x03, 0x81, 0x01, 0x05}, api.ErrLength}, // and another tag
		{[]byte{0x02, 0x81, 0x01, 0x80}, api.ErrLength}, // and no integer
		{laid(0x03, []byte{0x05}), api.ErrTag},
		{laid(0x03, []byte{0x80}), api.ErrTag}, // and no integer
		{laid(0x03), api.ErrTag},               // and no integer
		{laid(0x04, past), api.ErrTag},         // and too great
		{laid(0x02), api.ErrInteger},
		{laid(0x02, []byte{0x80}), api.ErrInteger},
		{laid(0x02, []byte{0x00, 0x05}), api.ErrInteger},
		{laid(0x02, []byte{0x00}, past), api.ErrInteger}, // and too great
		{laid(0x02, past), api.ErrLimit},
	}
}

// P7.3: what is wrong in the first integer is told ahead of what is wrong in the second, and both ahead of what stands behind.
func TestOrderOfItems(t *testing.T) {
	good, more := laid(0x02, []byte{0x05}), []byte{0xff, 0xff}
	closed := func(f flaw) bool { return f.e != api.ErrShort } // what stands behind it does not change it
	for _, first := range flaws() {
		isNoKey(t, laid(0x30, first.content), first.e)
		isNoKey(t, laid(0x30, good, first.content), first.e)
		if !closed(first) {
			continue
		}
		isNoKey(t, laid(0x30, first.content, more), first.e)
		isNoKey(t, laid(0x30, good, first.content, more), first.e)
		for _, second := range flaws() {
			isNoKey(t, laid(0x30, first.content, second.content), first.e)
			isNoKey(t, laid(0x30, first.content, second.content, more), first.e)
		}
	}
}

// P7.3: what is wrong in the outer item is told ahead of what is wrong in its content: its error of Item, its tag, what stands behind it.
func TestOrderOfAll(t *testing.T) {
	more := []byte{0x00}
	for _, f := range append(flaws(), flaw{slices.Concat(laid(0x02, []byte{5}), laid(0x02, []byte{3})), api.OK}) {
		whole := laid(0x30, f.content)
		if f.e != api.OK {
			isNoKey(t, whole, f.e)
		}
		isNoKey(t, slices.Concat(whole, more), api.ErrLong)
		other := laid(0x31, f.content)
		isNoKey(t, other, api.ErrTag)
		isNoKey(t, slices.Concat(other, more), api.ErrTag)
		isNoKey(t, whole[:len(whole)-1], api.ErrShort)
		isNoKey(t, other[:len(other)-1], api.ErrShort)
		length := lengthIn(4, uint64(len(f.content)))
		for _, tag := range []byte{0x30, 0x31} {
			long := slices.Concat([]byte{tag}, length, f.content)
			isNoKey(t, long, api.ErrLength)
			isNoKey(t, slices.Concat(long, more), api.ErrLength)
			isNoKey(t, slices.Concat([]byte{tag, 0x80}, f.content, more), api.ErrLength)
		}
	}
}

// P7.3: an inner item ends with the outer one's content, even where the first one would be whole by itself.
func TestContentAlone(t *testing.T) {
	// The second integer tells of two bytes, and one of them stands behind the outer item.
	isNoKey(t, []byte{0x30, 0x06, 0x02, 0x01, 0x05, 0x02, 0x02, 0x01, 0x03}, api.ErrLong)
	isNoKey(t, []byte{0x30, 0x06, 0x02, 0x01, 0x05, 0x02, 0x02, 0x01}, api.ErrShort)
	// The first one takes the second one's place.
	isNoKey(t, []byte{0x30, 0x06, 0x02, 0x04, 0x05, 0x02, 0x01, 0x03}, api.ErrShort)
	isKey(t, []byte{0x30, 0x09, 0x02, 0x04, 0x05, 0x02, 0x01, 0x03, 0x02, 0x01, 0x07}, small(0x05020103), small(7))
}
