package names

import (
	"strings"

	"vouch/api"
	"vouch/coding"
	"vouch/der"
	"vouch/rsa"
)

const (
	// algorithm is the only one whose keys are read.
	algorithm = "rsa"

	// normalFront stands ahead of the bytes in a key's normal text.
	normalFront = "rsa-hex:"
)

// keyless is a principal without a key; its text is a copy, for an answer shares no memory with what was handed in.
func keyless(kind int, text string) api.Principal {
	return api.Principal{Kind: kind, Text: strings.Clone(text)}
}

// keyed tells the holder of the key that a text names.
func keyed(x coded) (api.Principal, api.Errno) {
	k, e := keyOf(x)
	if e != api.OK {
		return api.Principal{}, e
	}
	b, e := der.Encode(k)
	if e != api.OK {
		return api.Principal{}, e
	}
	return api.Principal{Kind: api.Keyed, Text: normalFront + coding.Hex(b), Key: k}, api.OK
}

// keyOf tells the key that a text names.
func keyOf(x coded) (api.Key, api.Errno) {
	if x.about != algorithm {
		return api.Key{}, api.ErrUnsupported
	}
	b, e := x.bytes()
	if e != api.OK {
		return api.Key{}, e
	}
	k, e := der.Decode(b)
	if e == api.ErrLimit {
		return api.Key{}, e
	}
	if e != api.OK {
		return api.Key{}, api.ErrKeyForm
	}
	if e := rsa.Check(k); e != api.OK {
		return api.Key{}, e
	}
	return k, api.OK
}
