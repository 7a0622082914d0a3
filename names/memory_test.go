package names_test

import (
	"bytes"
	"encoding/hex"
	"math/rand"
	"slices"
	"strings"
	"testing"
	"unsafe"

	"vouch/api"
	"vouch/names"
)

// room is a text whose memory the test can write over, with marked memory behind it.
type room struct{ b []byte }

func roomFor(text string) room {
	return room{append([]byte(text), strings.Repeat("0", 64)...)[:len(text)]}
}

func (m room) text() string { return unsafe.String(unsafe.SliceData(m.b), len(m.b)) }

// scribble writes over all the memory, what lies behind the text included.
func (m room) scribble() { scribble(m.b) }

func scribble(b []byte) {
	b = b[:cap(b)]
	for i := range b {
		b[i] ^= 0x5A
	}
}

func scribbleLimbs(a []uint64) {
	a = a[:cap(a)]
	for i := range a {
		a[i] ^= 0xfeedfacefeedface
	}
}

// copied is a principal in memory of its own.
func copied(p api.Principal) api.Principal {
	return api.Principal{Kind: p.Kind, Text: strings.Clone(p.Text), Key: api.Key{N: slices.Clone(p.Key.N), E: slices.Clone(p.Key.E)}}
}

// principals are texts that Of takes.
func principals() []string {
	return []string{"POLICY", "alice", ":", "rsa-hex", "rsa-sha-hex:" + exampleHex, "\xff\xfe", "rsa-hex:" + exampleHex, "RSA-Hex:" + strings.ToUpper(exampleHex), "rsa-base64:" + exampleBase64(), "rsa-hex:" + hex.EncodeToString(bytesOf(plus(power(4096), -1), plus(power(4096), -3))), strings.Repeat("c", 65536)}
}

// signatures are texts that Signature takes.
func signatures() []string {
	return []string{"sig-rsa-sha1-hex:", "sig-RSA-sha1-hex:0fF0", "SIG-RSA-SHA1-BASE64:TQ==", "sig-rsa-sha1-base64:" + exampleBase64(), "sig-rsa-sha1-hex:" + strings.Repeat("a5", 30000)}
}

// A text that is handed in is not changed, what lies behind it included; be it refused or not.
func TestTextIn(t *testing.T) {
	for _, text := range slices.Concat(principals(), signatures(), refused(), []string{"", "sig-rsa-sha1-hex:0", "sig-dsa-sha1-hex:00"}) {
		given := roomFor(text)
		names.Of(given.text())
		names.Normal(given.text())
		names.Same(given.text(), given.text())
		names.Signature(given.text())
		if want := roomFor(text).b; !bytes.Equal(given.b[:len(text)+64], want[:len(text)+64]) {
			t.Fatalf("%.60q: what is handed in is changed", text)
		}
	}
}

// A text that is handed in is not kept: what was answered stays, whatever becomes of the text.
func TestTextKept(t *testing.T) {
	for _, text := range principals() {
		given := roomFor(text)
		p, e := names.Of(given.text())
		normal, e1 := names.Normal(given.text())
		if e != api.OK || e1 != api.OK {
			t.Fatalf("%.60q: errors %d and %d", text, e, e1)
		}
		given.scribble()
		if want, _ := ofByWords(text); !same(p, want) || normal != want.Text {
			t.Fatalf("%.60q: what is handed in is kept: %.60q and %.60q", text, p.Text, normal)
		}
		tells(t, text, p, api.OK)
	}
	for _, text := range signatures() {
		given := roomFor(text)
		front, b, e := names.Signature(given.text())
		given.scribble()
		if front1, b1, e1 := signatureByWords(text); front != front1 || !bytes.Equal(b, b1) || e != e1 {
			t.Fatalf("%.60q: what is handed in is kept: %.60q, %.60x, error %d", text, front, b, e)
		}
	}
}

// No two answers share memory, nor two lists of one answer.
func TestPrincipalsApart(t *testing.T) {
	r := rand.New(rand.NewSource(111))
	list := principals()
	for range 20 {
		list = append(list, texts(r, bytesOf(odd(r, 368+r.Intn(700)), odd(r, 2+r.Intn(300))))...)
	}
	for _, text := range list {
		first, e := names.Of(text)
		second, e1 := names.Of(text)
		if e != api.OK || e1 != api.OK {
			t.Fatalf("%.60q: errors %d and %d", text, e, e1)
		}
		normal, _ := names.Normal(text)
		if overlap(first.Text, second.Text) || overlap(first.Text, normal) || overlap(first.Text, text) {
			t.Fatalf("%.60q: two texts share memory", text)
		}
		want := copied(first)
		scribbleLimbs(first.Key.N)
		if !slices.Equal(first.Key.E, want.Key.E) {
			t.Fatalf("%.60q: N and E share memory", text)
		}
		scribbleLimbs(first.Key.E)
		if !same(second, want) {
			t.Fatalf("%.60q: two answers share memory", text)
		}
		tells(t, text, want, api.OK)
	}
}

// No two answers of Signature share memory.
func TestSignaturesApart(t *testing.T) {
	for _, text := range signatures() {
		front, first, _ := names.Signature(text)
		front2, second, _ := names.Signature(text)
		if overlap(front, front2) || overlap(front, text) {
			t.Fatalf("%.60q: two fronts share memory", text)
		}
		want := slices.Clone(second)
		scribble(first)
		if !bytes.Equal(second, want) {
			t.Fatalf("%.60q: two answers share memory", text)
		}
		isSignature(t, text, front, want, api.OK)
	}
}

// overlap: two texts share memory.
func overlap(a, b string) bool {
	if a == "" || b == "" {
		return false
	}
	from, other := uintptr(unsafe.Pointer(unsafe.StringData(a))), uintptr(unsafe.Pointer(unsafe.StringData(b)))
	return from < other+uintptr(len(b)) && other < from+uintptr(len(a))
}

// What is refused answers nothing beside the error.
func TestRefusedIsNothing(t *testing.T) {
	for _, text := range refused() {
		p, e := names.Of(text)
		if e == api.OK || p.Kind != 0 || p.Text != "" || len(p.Key.N) > 0 || len(p.Key.E) > 0 {
			t.Errorf("Of(%.60q): %.80v, error %d", text, p, e)
		}
		if normal, e1 := names.Normal(text); normal != "" || e1 != e {
			t.Errorf("Normal(%.60q): %.80q, error %d", text, normal, e1)
		}
		if front, b, e := names.Signature(text); front != "" || len(b) > 0 || e == api.OK {
			t.Errorf("Signature(%.60q): %.80q, %.80x, error %d", text, front, b, e)
		}
	}
}
