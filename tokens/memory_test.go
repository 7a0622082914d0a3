package tokens_test

import (
	"bytes"
	"math/rand"
	"slices"
	"strings"
	"testing"
	"unsafe"

	"vouch/api"
	"vouch/tokens"
)

// room is a text whose memory the test can write over, with marked memory behind it.
type room struct{ b []byte }

func roomFor(text string) room {
	return room{append([]byte(text), strings.Repeat("0", 64)...)[:len(text)]}
}

func (m room) text() string { return unsafe.String(unsafe.SliceData(m.b), len(m.b)) }

// scribble writes over all the memory, what lies behind the text included.
func (m room) scribble() {
	b := m.b[:cap(m.b)]
	for i := range b {
		b[i] ^= 0x5A
	}
}

// someBodies are bodies with tokens and without.
func someBodies() []string {
	list := []string{"", "a", `""`, `"a"`, ";", "?", "a ? b", `"a`, `"\q`, "a1 -> \"b\"; # c", "12 1.5 2-of(", strings.Repeat("a;", mostTokens/2), strings.Repeat("a;", mostTokens), strings.Repeat(`"b"`, mostTokens/2), strings.Repeat("x", mostBytes), `"` + strings.Repeat("x", mostBytes-2) + `"`}
	r := rand.New(rand.NewSource(149))
	for range 300 {
		list = append(list, drawnBody(r))
	}
	return list
}

// gone are the tokens over which Each's function goes.
func gone(each func(func(int, api.Token) bool)) []api.Token {
	var list []api.Token
	for _, token := range each {
		list = append(list, token)
	}
	return list
}

// What is handed in is not changed, what lies behind it included, and not kept: what Each hands out tells what there was when it was asked for.
func TestTextIn(t *testing.T) {
	for _, body := range someBodies() {
		given := roomFor(body)
		list, at, e := tokens.Tokens(given.text())
		each := tokens.Each(given.text())
		quoted := tokens.Quote(given.text())
		tokens.Name(given.text())
		if want := roomFor(body).b; !bytes.Equal(given.b[:len(body)+64], want[:len(body)+64]) {
			t.Fatalf("%.60q: what is handed in is changed", body)
		}
		given.scribble()
		want, place, wrong := tokensByWords(body)
		if !slices.Equal(list, want) || at != place || e != wrong || !slices.Equal(gone(each), want) || quoted != quoteByWords(body) {
			t.Fatalf("%.60q: what is handed in is kept", body)
		}
	}
}

// span is where a text lies.
type span struct{ from, behind uintptr }

func spanOf(s string) span {
	from := uintptr(unsafe.Pointer(unsafe.StringData(s)))
	return span{from, from + uintptr(len(s))}
}

// No two answers share memory, nor two texts of one answer, and none shares with what was handed in.
func TestApart(t *testing.T) {
	for _, body := range someBodies() {
		first, _, _ := tokens.Tokens(body)
		second, _, _ := tokens.Tokens(body)
		each := tokens.Each(body)
		texts := []string{body, tokens.Quote(body), tokens.Quote(body)}
		for _, token := range slices.Concat(first, second, gone(each), gone(each), gone(tokens.Each(body))) {
			texts = append(texts, token.Text)
		}
		var spans []span
		for _, s := range texts {
			if s != "" {
				spans = append(spans, spanOf(s))
			}
		}
		slices.SortFunc(spans, func(a, b span) int { return int(a.from) - int(b.from) })
		for i := 1; i < len(spans); i++ {
			if spans[i].from < spans[i-1].behind {
				t.Fatalf("%.60q: two texts share memory", body)
			}
		}
		for i := range first[:cap(first)] {
			first[:cap(first)][i] = tok(200, "x", -1, -1)
		}
		want, place, e := tokensByWords(body)
		if !slices.Equal(second, want) || !slices.Equal(gone(each), want) {
			t.Fatalf("%.60q: two answers share memory", body)
		}
		tells(t, body, want, place, e)
	}
}
