package tokens_test

import (
	"math/rand"
	"slices"
	"strings"
	"testing"

	"vouch/api"
	"vouch/tokens"
)

// cut is what Tokens tells of a body that has tokens.
func cut(t *testing.T, body string) []api.Token {
	t.Helper()
	list, at, e := tokens.Tokens(body)
	if e != api.OK || at != 0 {
		t.Fatalf("Tokens(%.200q): %.200v, %d, error %d", body, list, at, e)
	}
	return list
}

// unplaced are the tokens without their places.
func unplaced(list []api.Token) []api.Token {
	list = slices.Clone(list)
	for i := range list {
		list[i].At, list[i].End = 0, 0
	}
	return list
}

// drawnWithTokens are some drawn bodies that have tokens.
func drawnWithTokens(seed int64) []string {
	r := rand.New(rand.NewSource(seed))
	var bodies []string
	for len(bodies) < 10000 {
		body := drawnBody(r)
		if _, _, e := tokens.Tokens(body); e == api.OK {
			bodies = append(bodies, body)
		}
	}
	return bodies
}

// P14.4: tokens stand one behind the other, what lies between them is blank, and the bytes of each, alone, are that token.
func TestSideBySide(t *testing.T) {
	for _, body := range drawnWithTokens(144) {
		at := 0
		for _, token := range cut(t, body) {
			if token.At < at || token.End <= token.At || token.End > len(body) {
				t.Fatalf("%q: %v behind %d", body, token, at)
			}
			if between := body[at:token.At]; blankByWords.FindString(between) != between {
				t.Fatalf("%q: %q lies between two tokens", body, between)
			}
			alone := body[token.At:token.End]
			cuts(t, alone, tok(token.Kind, token.Text, 0, len(alone)))
			at = token.End
		}
		if rest := body[at:]; blankByWords.FindString(rest) != rest {
			t.Fatalf("%q: %q lies behind all tokens", body, rest)
		}
	}
}

// P14.4: blanks put between two tokens change nothing but places.
func TestMoreBlanks(t *testing.T) {
	r := rand.New(rand.NewSource(145))
	for _, body := range drawnWithTokens(146) {
		list := cut(t, body)
		other, at := "", 0
		for i, token := range list {
			if i == 0 || r.Intn(2) == 0 {
				other += body[at:token.At]
			} else {
				other += body[at:token.At] + "\n" + drawnBlank(r)
			}
			other += body[token.At:token.End]
			at = token.End
		}
		other += body[at:]
		if got := cut(t, other); !slices.Equal(unplaced(got), unplaced(list)) {
			t.Fatalf("%q: %v, but %q: %v", body, list, other, got)
		}
	}
}

// P14.4: two bodies, one behind the other, have the tokens of both.
func TestTwoBodies(t *testing.T) {
	bodies := drawnWithTokens(147)
	for i := 1; i < len(bodies); i++ {
		first, second := bodies[i-1], bodies[i]
		want := slices.Concat(cut(t, first), moved(cut(t, second), len(first)+1))
		cuts(t, first+"\n"+second, want...)
	}
	half := strings.Repeat(";", mostTokens/2)
	cuts(t, half+"\n"+half, slices.Concat(cut(t, half), moved(cut(t, half), len(half)+1))...)
	refuses(t, half+"\n"+half+";", mostTokens+1, api.ErrLimit)
}

// P14.4: Quote of a text is one string that stands for it, if it is not too long.
func TestQuoteIsRead(t *testing.T) {
	r := rand.New(rand.NewSource(148))
	reads := func(text string) {
		t.Helper()
		s := tokens.Quote(text)
		cuts(t, s, tok(str, text, 0, len(s)))
		holds(t, s)
	}
	for _, c := range allBytes() {
		reads(c)
	}
	all(allBytes(), 2, func(text string) {
		s := tokens.Quote(text)
		if list := cut(t, s); len(list) != 1 || list[0] != tok(str, text, 0, len(s)) {
			t.Fatalf("Tokens of Quote(%q): %v", text, list)
		}
	})
	for range 20000 {
		reads(drawnBytes(r, 40))
	}
	reads(strings.Repeat("a", mostBytes-2))
	reads(strings.Repeat("\xff", (mostBytes-2)/4))
	refuses(t, tokens.Quote(strings.Repeat("a", mostBytes-1)), 0, api.ErrLimit)
	refuses(t, tokens.Quote(strings.Repeat("\xff", mostBytes/4)), 0, api.ErrLimit)
}
