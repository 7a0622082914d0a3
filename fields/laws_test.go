package fields_test

import (
	"math/rand"
	"slices"
	"strings"
	"testing"

	"vouch/api"
	"vouch/fields"
)

// split is what Split tells of a text that has fields.
func split(t *testing.T, text string) []api.Field {
	t.Helper()
	list, at, e := fields.Split(text)
	if e != api.OK || at != 0 || len(list) == 0 {
		t.Fatalf("Split(%.200q): %v, %d, error %d", text, list, at, e)
	}
	return list
}

// P13.5: fields lie side by side, from the text's beginning to its end.
func TestSideBySide(t *testing.T) {
	r := rand.New(rand.NewSource(135))
	for range 20000 {
		text := drawnText(r)
		list, at := split(t, text), 0
		for _, f := range list {
			if name := text[f.At : f.Body-1]; f.At != at || text[f.Body-1] != ':' || !strings.EqualFold(name, fields.Name(f.Kind)) || f.End < f.Body {
				t.Fatalf("%q: %v, %q", text, list, name)
			}
			at = f.End
		}
		if at != len(text) {
			t.Fatalf("%q: the last field of %v ends ahead of the text", text, list)
		}
	}
}

// P13.5: letters of names in the other case change nothing.
func TestOtherCase(t *testing.T) {
	r := rand.New(rand.NewSource(136))
	for range 20000 {
		text := drawnText(r)
		list, other := split(t, text), ""
		for _, f := range list {
			other += mixed(r, text[f.At:f.Body]) + text[f.Body:f.End]
		}
		if got := split(t, other); !slices.Equal(got, list) {
			t.Fatalf("%q: %v, but %q: %v", text, list, other, got)
		}
	}
}

// P13.5: a Comment more behind all fields changes no other one.
func TestCommentMore(t *testing.T) {
	r := rand.New(rand.NewSource(137))
	count := 0
	for range 20000 {
		text := drawnText(r)
		list := split(t, text)
		if !strings.HasSuffix(text, "\n") || slices.ContainsFunc(list, func(f api.Field) bool { return f.Kind >= 6 }) {
			continue
		}
		count++
		longer := text + "Comment:" + drawnBody(r)
		want := append(slices.Clone(list), api.Field{Kind: 6, At: len(text), Body: len(text) + 8, End: len(longer)})
		if got := split(t, longer); !slices.Equal(got, want) {
			t.Fatalf("%q: %v, want %v", longer, got, want)
		}
	}
	if count < 1000 {
		t.Errorf("only %d texts", count)
	}
}

// P13.5: what Signed tells does not hang on the Signature's body.
func TestSignaturesBody(t *testing.T) {
	r := rand.New(rand.NewSource(138))
	count := 0
	for range 20000 {
		text := drawnText(r)
		list := split(t, text)
		last := list[len(list)-1]
		if last.Kind != api.FieldSignature {
			continue
		}
		count++
		first, e := fields.Signed(text)
		second, e1 := fields.Signed(text[:last.Body] + drawnBody(r))
		if e != api.OK || e1 != api.OK || first != second {
			t.Fatalf("%q: %q and %q, errors %d and %d", text, first, second, e, e1)
		}
	}
	if count < 1000 {
		t.Errorf("only %d texts", count)
	}
}
