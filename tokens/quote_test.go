package tokens_test

import (
	"fmt"
	"math/rand"
	"strings"
	"testing"

	"vouch/tokens"
)

// quoteByWords is what the chapter's words say of Quote: the named bytes first, then the others by their number.
func quoteByWords(text string) string {
	named := map[byte]string{34: `\"`, 92: `\\`, 10: `\n`, 9: `\t`, 13: `\r`}
	var out strings.Builder
	for _, b := range []byte(text) {
		switch piece, ok := named[b]; {
		case ok:
			out.WriteString(piece)
		case b >= 32 && b <= 126:
			out.WriteByte(b)
		default:
			fmt.Fprintf(&out, `\%03o`, b)
		}
	}
	return `"` + out.String() + `"`
}

// quotes: Quote writes a text just so.
func quotes(t *testing.T, text, want string) {
	t.Helper()
	if got := tokens.Quote(text); got != want {
		t.Fatalf("Quote(%.80q of %d bytes): %.160s, want %.160s", text, len(text), got, want)
	}
}

// P14.3: the chapter's example, and each byte.
func TestQuote(t *testing.T) {
	quotes(t, "a\"\n\xc8", `"a\"\n\310"`)
	quotes(t, "", `""`)
	quotes(t, "\t\n\r\"\\", `"\t\n\r\"\\"`)
	quotes(t, "\x00\x01\x07\x08\x0b\x0c\x1f\x7f\x80\xff", `"\000\001\007\010\013\014\037\177\200\377"`)
	quotes(t, " !#'[]~", `" !#'[]~"`)
	quotes(t, "\x001", `"\0001"`)
	quotes(t, `\n`, `"\\n"`)
	quotes(t, "\u00e9\u2028", `"\303\251\342\200\250"`)
	for _, c := range allBytes() {
		quotes(t, c, quoteByWords(c))
	}
	quotes(t, strings.Repeat("\x00", 1<<20), `"`+strings.Repeat(`\000`, 1<<20)+`"`)
	quotes(t, strings.Repeat("a", 1<<20), `"`+strings.Repeat("a", 1<<20)+`"`)
	all(allBytes(), 2, func(text string) { quotes(t, text, quoteByWords(text)) })
	r := rand.New(rand.NewSource(143))
	for range 20000 {
		text := drawnBytes(r, 20)
		quotes(t, text, quoteByWords(text))
	}
}

// isName: Name tells just this.
func isName(t *testing.T, s string, want bool) {
	t.Helper()
	if got := tokens.Name(s); got != want {
		t.Fatalf("Name(%.80q of %d bytes): %t", s, len(s), got)
	}
}

// P14.3: what is a name, whole.
func TestName(t *testing.T) {
	for _, s := range []string{"_a1", "_", "__", "a", "Z", "z9", "A_0_z", "true", "false", "of", "POLICY", strings.Repeat("a", mostBytes), strings.Repeat("_9", mostBytes)} {
		isName(t, s, true)
	}
	for _, s := range []string{"", "1a", "1", "1.5", "2-of", ";", "->", `"a"`, " a", "a ", "a\n", "a#", "# a", "a b", "a-b", "a.b", "a;", "\u00e9", "a\u00e9", "\u017f", "\u212a", "\xff", "?", "\x00", "a\x00", strings.Repeat("a", mostBytes) + " ", strings.Repeat("1", mostBytes)} {
		isName(t, s, false)
	}
	const letters = "_abcdefghijklmnopqrstuvwxyzABCDEFGHIJKLMNOPQRSTUVWXYZ"
	for _, c := range allBytes() {
		letter, digit := strings.Contains(letters, c), strings.Contains("0123456789", c)
		isName(t, c, letter)
		isName(t, c+"a", letter)
		isName(t, c+"1", letter)
		for _, s := range []string{"a", "_", "Z9", "_0", "aaaa"} {
			isName(t, s+c, letter || digit)
			isName(t, s+c+s, letter || digit)
			isName(t, c+s, letter)
		}
	}
}

// P14.3: what is a name is one token of that kind, and nothing else is.
func TestNameIsToken(t *testing.T) {
	all([]string{"a", "Z", "_", "0", "9", ".", " ", "-", "#", `"`, "\xc8"}, 4, func(s string) {
		list, _, _ := tokensByWords(s)
		isName(t, s, len(list) == 1 && list[0] == tok(name, s, 0, len(s)))
	})
}
