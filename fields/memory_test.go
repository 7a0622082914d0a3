package fields_test

import (
	"bytes"
	"math/rand"
	"slices"
	"strings"
	"testing"
	"unsafe"

	"vouch/api"
	"vouch/fields"
)

// room is a text whose memory the test can write over, with marked memory behind it.
type room struct{ b []byte }

func roomFor(text string) room {
	return room{append([]byte(text), strings.Repeat("0", 64)...)[:len(text)]}
}

func (m room) text() string { return unsafe.String(unsafe.SliceData(m.b), len(m.b)) }

// scribble writes over all the memory, what lies behind the text included.
func (m room) scribble() {
	b := m.b[:cap(m.b)]
	for i := range b {
		b[i] ^= 0x5A
	}
}

// overlap: two texts share memory.
func overlap(a, b string) bool {
	if a == "" || b == "" {
		return false
	}
	from, other := uintptr(unsafe.Pointer(unsafe.StringData(a))), uintptr(unsafe.Pointer(unsafe.StringData(b)))
	return from < other+uintptr(len(b)) && other < from+uintptr(len(a))
}

// asked is all that the calls answer of a text.
type asked struct {
	list   []api.Field
	at     int
	bodies [9]string
	signed string
	errors [11]api.Errno
}

func ask(text string) asked {
	var a asked
	a.list, a.at, a.errors[9] = fields.Split(text)
	for kind := range a.bodies {
		a.bodies[kind], _, a.errors[kind] = fields.Find(text, uint8(kind))
	}
	a.signed, a.errors[10] = fields.Signed(text)
	return a
}

func same(a, b asked) bool {
	return slices.Equal(a.list, b.list) && a.at == b.at && a.bodies == b.bodies && a.signed == b.signed && a.errors == b.errors
}

func someTexts() []string {
	list := []string{"", "x", "Authorizer:", "Authorizer:\x00", full, "Comment:", "Authorizer:\nAuthorizer:", "Signature:\nAuthorizer:", "Authorizer:" + strings.Repeat("x", mostBytes)}
	r := rand.New(rand.NewSource(139))
	for range 300 {
		list = append(list, drawnText(r))
	}
	return list
}

// A text that is handed in is not changed, what lies behind it included, and not kept.
func TestTextIn(t *testing.T) {
	for _, text := range someTexts() {
		given := roomFor(text)
		got := ask(given.text())
		fields.Kind(given.text())
		if want := roomFor(text).b; !bytes.Equal(given.b[:len(text)+64], want[:len(text)+64]) {
			t.Fatalf("%.60q: what is handed in is changed", text)
		}
		given.scribble()
		if !same(got, ask(text)) {
			t.Fatalf("%.60q: what is handed in is kept", text)
		}
	}
}

// No two answers share memory, and none shares with what was handed in.
func TestApart(t *testing.T) {
	for _, text := range someTexts() {
		first, second := ask(text), ask(text)
		given := []string{text}
		for _, s := range slices.Concat(first.bodies[:], second.bodies[:], []string{first.signed, second.signed}) {
			for _, other := range given {
				if overlap(s, other) {
					t.Fatalf("%.60q: two texts share memory", text)
				}
			}
			given = append(given, s)
		}
		list := slices.Clone(first.list)
		for i := range first.list[:cap(first.list)] {
			first.list[:cap(first.list)][i] = api.Field{Kind: 200, At: -1, Body: -1, End: -1}
		}
		if !slices.Equal(second.list, list) || !same(second, ask(text)) {
			t.Fatalf("%.60q: two answers share memory", text)
		}
	}
	for kind := uint8(1); kind <= 7; kind++ {
		if overlap(fields.Name(kind), fields.Name(kind)) {
			t.Errorf("Name(%d): two texts share memory", kind)
		}
	}
}
