package pattern

import "vouch/api"

const (
	byteCount = 256
	wordBits  = 64 // of a place of a set
)

// has: is a byte in a set?
func has(s api.Set, c byte) bool { return s[c/wordBits]>>(c%wordBits)&1 == 1 }

// those tells the set of the bytes for which a test holds.
func those(holds func(c byte) bool) api.Set {
	var s api.Set
	for c := range byteCount {
		if holds(byte(c)) {
			s[c/wordBits] |= 1 << (c % wordBits)
		}
	}
	return s
}

// span tells the set of the bytes from first to last.
func span(first, last byte) api.Set {
	return those(func(c byte) bool { return c >= first && c <= last })
}

// only tells the set of one byte.
func only(c byte) api.Set { return span(c, c) }

// every tells the set of all bytes.
func every() api.Set { return others(api.Set{}) }

// others tells the set of the bytes that a set has not.
func others(s api.Set) api.Set {
	for i := range s {
		s[i] = ^s[i]
	}
	return s
}

// both tells the set of the bytes of two sets.
func both(a, b api.Set) api.Set {
	for i := range a {
		a[i] |= b[i]
	}
	return a
}

// run is bytes side by side, from first to last.
type run struct{ first, last byte }

// runs tells the runs of a set, rising, each with as many bytes as there are.
func runs(s api.Set) []run {
	var list []run
	for i := range byteCount {
		c := byte(i)
		switch {
		case !has(s, c):
		case c > 0 && has(s, c-1):
			list[len(list)-1].last = c
		default:
			list = append(list, run{c, c})
		}
	}
	return list
}
