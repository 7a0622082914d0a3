package fields_test

import (
	"math/rand"
	"regexp"
	"slices"
	"strings"
	"testing"

	"vouch/api"
	"vouch/fields"
)

const mostBytes = 65536 // of a text

// fieldNames are the names by their kinds, as the chapter writes them; of the kind 0 there is none.
func fieldNames() []string {
	return []string{"", "KeyNote-Version", "Authorizer", "Licensees", "Local-Constants", "Conditions", "Comment", "Signature"}
}

// kindByWords is the kind of a name; each letter is folded as one of ASCII, for the library would fold others, too.
func kindByWords(name string) (uint8, bool) {
	b := []byte(name)
	for i := range b {
		if at := strings.IndexByte("ABCDEFGHIJKLMNOPQRSTUVWXYZ", b[i]); at >= 0 {
			b[i] = "abcdefghijklmnopqrstuvwxyz"[at]
		}
	}
	for kind, want := range fieldNames() {
		if kind > 0 && string(b) == strings.ToLower(want) {
			return uint8(kind), true
		}
	}
	return 0, false
}

var (
	strange = regexp.MustCompile(`[^\t\n\r -~]`)
	begins  = regexp.MustCompile(`^[^\t\n\r ]`)
	named   = regexp.MustCompile(`^([^:\n]*):`)
)

// splitByWords is what the chapter's words say of Split: the lines are made a list first, and each is asked in its turn.
func splitByWords(text string) ([]api.Field, int, api.Errno) {
	if len(text) > mostBytes {
		return nil, 0, 3
	}
	if at := strange.FindStringIndex(text); at != nil {
		return nil, at[0], 130
	}
	var list []api.Field
	place := 0
	for number, line := range strings.SplitAfter(text, "\n") {
		if begins.MatchString(line) {
			parts := named.FindStringSubmatch(line)
			if parts == nil {
				return nil, place, 131
			}
			kind, ok := kindByWords(parts[1])
			if !ok {
				return nil, place, 131
			}
			if e := refusedByWords(list, kind); e != 0 {
				return nil, place, e
			}
			list = append(list, api.Field{Kind: kind, At: place, Body: place + len(parts[0])})
		} else if number == 0 {
			return nil, 0, 131
		}
		place += len(line)
		list[len(list)-1].End = place
	}
	if !slices.ContainsFunc(list, func(f api.Field) bool { return f.Kind == 2 }) {
		return nil, len(text), 134
	}
	return list, 0, 0
}

// refusedByWords is the error of a field of a kind behind these fields.
func refusedByWords(ahead []api.Field, kind uint8) api.Errno {
	for _, f := range ahead {
		if f.Kind == kind {
			return 132
		}
	}
	if kind == 1 && len(ahead) > 0 {
		return 133
	}
	for _, f := range ahead {
		if f.Kind == 7 {
			return 133
		}
	}
	return 0
}

// holds holds Split of a text, and what Find and Signed tell of it, against the chapter's words, and tells Split's error.
func holds(t *testing.T, text string) api.Errno {
	t.Helper()
	list, at, e := splitByWords(text)
	tells(t, text, list, at, e)
	return e
}

// tells: Split tells just this, and Find and Signed what follows from it.
func tells(t *testing.T, text string, list []api.Field, at int, e api.Errno) {
	t.Helper()
	if got, place, err := fields.Split(text); err != e || place != at || !slices.Equal(got, list) {
		t.Fatalf("Split(%.120q of %d bytes): %v, %d, error %d, want %v, %d, error %d", text, len(text), got, place, err, list, at, e)
	}
	bodies := map[uint8]string{}
	signed, missing := "", e
	if e == 0 {
		missing = 134
	}
	for _, f := range list {
		bodies[f.Kind] = text[f.Body:f.End]
		if f.Kind == 7 {
			signed, missing = text[:f.At], 0
		}
	}
	for kind := uint8(1); kind <= 7; kind++ {
		want, there := bodies[kind]
		finds(t, text, kind, want, there, e)
	}
	signs(t, text, signed, missing)
}

// finds: Find tells just this.
func finds(t *testing.T, text string, kind uint8, want string, there bool, e api.Errno) {
	t.Helper()
	if got, ok, err := fields.Find(text, kind); got != want || ok != there || err != e {
		t.Fatalf("Find(%.120q of %d bytes, %d): %.80q, %t, error %d, want %.80q, %t, error %d", text, len(text), kind, got, ok, err, want, there, e)
	}
}

// signs: Signed tells just this.
func signs(t *testing.T, text, want string, e api.Errno) {
	t.Helper()
	if got, err := fields.Signed(text); got != want || err != e {
		t.Fatalf("Signed(%.120q of %d bytes): %.80q, error %d, want %.80q, error %d", text, len(text), got, err, want, e)
	}
}

// refuses: Split answers this error at this place, Find and Signed answer it too, and nothing beside it.
func refuses(t *testing.T, text string, at int, e api.Errno) {
	t.Helper()
	tells(t, text, nil, at, e)
}

// cuts: Split tells fields of which each is told by its kind, At, Body and End.
func cuts(t *testing.T, text string, numbers ...int) {
	t.Helper()
	var list []api.Field
	for four := range slices.Chunk(numbers, 4) {
		list = append(list, api.Field{Kind: uint8(four[0]), At: four[1], Body: four[2], End: four[3]})
	}
	tells(t, text, list, 0, 0)
}

// all hands out all texts of so many pieces.
func all(pieces []string, n int, yield func(string)) {
	if n == 0 {
		yield("")
		return
	}
	for _, piece := range pieces {
		all(pieces, n-1, func(s string) { yield(piece + s) })
	}
}

// casings hands out all ways to write a text of ASCII in great letters and small ones.
func casings(s string, yield func(string)) {
	if s == "" {
		yield("")
		return
	}
	for _, c := range slices.Compact([]string{strings.ToLower(s[:1]), strings.ToUpper(s[:1])}) {
		casings(s[1:], func(rest string) { yield(c + rest) })
	}
}

// mixed tells a text with some of its letters great and others small.
func mixed(r *rand.Rand, s string) string {
	b := []byte(s)
	for i := range b {
		if letter := b[i] | 0x20; letter >= 'a' && letter <= 'z' && r.Intn(2) == 0 {
			b[i] ^= 0x20
		}
	}
	return string(b)
}

// foreign are letters of other alphabets that the library takes for those of a to z, or that have their numbers in lower bits, and bytes that are no text in UTF-8.
func foreign() []string {
	list := []string{"\u017f", "\u0130", "\u0131", "\u212a", "\u00e9", "\u2010", "\u2011", "\u2212", "\u00ad", "\uff0d", "\uff1a", "\ufffd", "\xed\xa0\x80", "\xc1\xa1", "\xe0\x81\xa1"}
	for _, c := range []byte("KkAsSin-:") {
		for _, r := range []rune{0x80, 0x100, 0x400, 0xfee0, 0x10000} {
			list = append(list, string(r+rune(c)))
		}
		list = append(list, string([]byte{c | 0x80}), string([]byte{0xc0 | c>>6, 0x80 | c&63}))
	}
	return list
}

// drawnBody is a body of some lines that go on with its field.
func drawnBody(r *rand.Rand) string {
	pieces := []string{" ", "\t", "x", "\"a\"", ":", "Authorizer:", "#", "\n ", "\n\t", "\n\r", "\n\n ", "\r\n ", "~", "\n Signature: y"}
	text := ""
	for range r.Intn(6) {
		text += pieces[r.Intn(len(pieces))]
	}
	return text + strings.Repeat("\n", r.Intn(3)/2)
}

// drawnText is a text that has fields, each kind at most once, in an order that may be; its last line may want its byte 10.
func drawnText(r *rand.Rand) string {
	kinds := []uint8{2}
	for _, kind := range []uint8{3, 4, 5, 6} {
		if r.Intn(2) == 0 {
			kinds = append(kinds, kind)
		}
	}
	r.Shuffle(len(kinds), func(i, j int) { kinds[i], kinds[j] = kinds[j], kinds[i] })
	if r.Intn(2) == 0 {
		kinds = slices.Concat([]uint8{1}, kinds)
	}
	if r.Intn(2) == 0 {
		kinds = append(kinds, 7)
	}
	text := ""
	for _, kind := range kinds {
		text += mixed(r, fieldNames()[kind]) + ":" + drawnBody(r) + "\n"
	}
	return text[:len(text)-r.Intn(2)]
}
