package tokens_test

import (
	"math/rand"
	"testing"

	"vouch/api"
	"vouch/tokens"
)

// P14.2: over the tokens with their numbers, in their order.
func TestEach(t *testing.T) {
	want := []api.Token{tok(name, "a", 0, 1), tok(str, "b\n", 2, 7), tok(sign, ";", 7, 8)}
	count := 0
	for i, token := range tokens.Each("a \"b\\n\"; # c") {
		if i != count || token != want[i] {
			t.Fatalf("%d: %v, want %v as number %d", i, token, want[i], count)
		}
		count++
	}
	if count != len(want) {
		t.Fatalf("%d tokens", count)
	}
}

// P14.2: over none, if there is an error, be there tokens ahead of it or not.
func TestEachOfErrors(t *testing.T) {
	for _, body := range []string{"", " # a", "?", "a ; ?", `a "b`, `a; "\q"`, "a \"\n\"", string(make([]byte, mostBytes+1)), longBody(mostTokens + 1)} {
		for i, token := range tokens.Each(body) {
			t.Fatalf("%.60q: %d, %v", body, i, token)
		}
	}
}

// longBody is a body of so many tokens.
func longBody(n int) string {
	b := make([]byte, n)
	for i := range b {
		b[i] = ';'
	}
	return string(b)
}

// P14.2: it may be left at any token, and gone over again, also while it is gone over.
func TestEachAgain(t *testing.T) {
	r := rand.New(rand.NewSource(142))
	for range 500 {
		body := drawnBody(r)
		list, _, _ := tokens.Tokens(body)
		each := tokens.Each(body)
		for leave := range len(list) + 1 {
			if got := upTo(t, each, list, leave); got != min(leave+1, len(list)) {
				t.Fatalf("%q: %d tokens, left at number %d", body, got, leave)
			}
		}
		for i, outer := range each {
			if outer != list[i] || upTo(t, each, list, len(list)) != len(list) {
				t.Fatalf("%q: %d, %v, gone over within", body, i, outer)
			}
		}
	}
	count := 0
	for i, token := range tokens.Each(longBody(mostTokens)) {
		if i != count || token != tok(sign, ";", i, i+1) {
			t.Fatalf("%d, %v", i, token)
		}
		count++
	}
	if count != mostTokens {
		t.Fatalf("%d tokens", count)
	}
}

// upTo goes over the tokens, leaves at the one with this number, and tells how many there were.
func upTo(t *testing.T, each func(func(int, api.Token) bool), list []api.Token, leave int) int {
	t.Helper()
	count := 0
	for i, token := range each {
		if i != count || token != list[i] {
			t.Fatalf("%d, %v as number %d of %v", i, token, count, list)
		}
		count++
		if i == leave {
			break
		}
	}
	return count
}
