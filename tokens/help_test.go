package tokens_test

import (
	"math/rand"
	"regexp"
	"slices"
	"strings"
	"testing"

	"vouch/api"
	"vouch/tokens"
)

// The limits and the kinds, as the document writes them.
const (
	mostBytes  = 65536 // of a body
	mostTokens = 8192

	name, number, dec, str, of, sign = 1, 2, 3, 4, 5, 6
)

// kindsByWords are the tokens, strings aside, by their kinds; the longest one that stands there counts.
var kindsByWords = map[uint8]*regexp.Regexp{
	name:   regexp.MustCompile(`^[a-zA-Z_][a-zA-Z0-9_]*`),
	number: regexp.MustCompile(`^[0-9]+`),
	dec:    regexp.MustCompile(`^[0-9]+\.[0-9]+`),
	of:     regexp.MustCompile(`^[0-9]+-of\b`),
	sign:   regexp.MustCompile(`^(?:->|&&|\|\||==|!=|<=|>=|~=|[(){};!<>+\-*/%^.$@&,=])`),
}

// The pieces of a string, and what stands between tokens.
var (
	blankByWords = regexp.MustCompile(`^(?:[\t\n\r ]|#[^\n]*)*`)
	pieceByWords = regexp.MustCompile(`^(?:[^"\\\n]|\\["\\ntr]|\\[0-3][0-7][0-7]|\\\n[\t\r ]*)`)
	cutByWords   = regexp.MustCompile(`^\\[0-7]{0,2}$`) // the body's end comes where a piece is not whole
)

// stringByWords is what the chapter's words say of the string with which a body begins: piece by piece.
func stringByWords(body string) (string, int, api.Errno) {
	text := ""
	for at := 1; ; {
		rest := body[at:]
		piece := pieceByWords.FindString(rest)
		switch {
		case piece != "":
			text += worthByWords(piece)
			at += len(piece)
		case rest != "" && rest[0] == '"':
			return text, at + 1, 0
		case rest == "" || rest[0] == '\n' || cutByWords.MatchString(rest):
			return "", 0, 141
		default:
			return "", at, 142
		}
	}
}

// worthByWords is what a piece stands for.
func worthByWords(piece string) string {
	if piece[0] != '\\' {
		return piece
	}
	switch piece[1] {
	case '"', '\\':
		return piece[1:]
	case 'n':
		return "\n"
	case 't':
		return "\t"
	case 'r':
		return "\r"
	case '\n':
		return ""
	}
	worth := 0
	for _, c := range piece[1:] {
		worth = 8*worth + strings.IndexRune("01234567", c)
	}
	return string([]byte{byte(worth)})
}

// tokenByWords is the token with which a body begins, or the place of what is wrong.
func tokenByWords(body string) (api.Token, int, api.Errno) {
	if body[0] == '"' {
		text, end, e := stringByWords(body)
		if e != 0 {
			return api.Token{}, end, e
		}
		return api.Token{Kind: str, Text: text, End: end}, 0, 0
	}
	var best api.Token
	for kind, form := range kindsByWords {
		if text := form.FindString(body); len(text) > best.End {
			best = api.Token{Kind: kind, Text: text, End: len(text)}
		}
	}
	if best.End == 0 {
		return api.Token{}, 0, 140
	}
	if best.Kind == of {
		best.Text = best.Text[:strings.Index(best.Text, "-")]
	}
	return best, 0, 0
}

// tokensByWords is what the chapter's words say of Tokens.
func tokensByWords(body string) ([]api.Token, int, api.Errno) {
	if len(body) > mostBytes {
		return nil, 0, 3
	}
	var list []api.Token
	for at := 0; ; {
		at += len(blankByWords.FindString(body[at:]))
		if at == len(body) {
			return list, 0, 0
		}
		if len(list) == mostTokens {
			return nil, at, 3
		}
		t, wrong, e := tokenByWords(body[at:])
		if e != 0 {
			return nil, at + wrong, e
		}
		t.At += at
		t.End += at
		list = append(list, t)
		at = t.End
	}
}

// holds holds Tokens and Each of a body against the chapter's words, and tells the error.
func holds(t *testing.T, body string) api.Errno {
	t.Helper()
	list, at, e := tokensByWords(body)
	tells(t, body, list, at, e)
	return e
}

// tells: Tokens tells just this, and Each goes over it.
func tells(t *testing.T, body string, list []api.Token, at int, e api.Errno) {
	t.Helper()
	got, place, err := tokens.Tokens(body)
	if err != e || place != at || !slices.Equal(got, list) {
		t.Fatalf("Tokens(%.120q of %d bytes): %.300v, %d, error %d, want %.300v, %d, error %d", body, len(body), got, place, err, list, at, e)
	}
	count := 0
	for i, token := range tokens.Each(body) {
		if i != count || i >= len(list) || token != list[i] {
			t.Fatalf("Each(%.120q of %d bytes): %d, %v as number %d", body, len(body), i, token, count)
		}
		count++
	}
	if count != len(list) {
		t.Fatalf("Each(%.120q of %d bytes): %d tokens, want %d", body, len(body), count, len(list))
	}
}

// refuses: Tokens answers this error at this place, and nothing beside it; Each goes over nothing.
func refuses(t *testing.T, body string, at int, e api.Errno) {
	t.Helper()
	tells(t, body, nil, at, e)
}

// tok is a token.
func tok(kind uint8, text string, at, end int) api.Token {
	return api.Token{Kind: kind, Text: text, At: at, End: end}
}

// cuts: Tokens tells these tokens.
func cuts(t *testing.T, body string, list ...api.Token) {
	t.Helper()
	tells(t, body, list, 0, 0)
}

// stands: this string, between its two bytes ", stands for a text; also behind other tokens and ahead of some.
func stands(t *testing.T, inner, text string) {
	t.Helper()
	whole := `"` + inner + `"`
	cuts(t, whole, tok(str, text, 0, len(whole)))
	cuts(t, "a"+whole+"b", tok(name, "a", 0, 1), tok(str, text, 1, len(whole)+1), tok(name, "b", len(whole)+1, len(whole)+2))
}

// all hands out all texts of so many pieces.
func all(pieces []string, n int, yield func(string)) {
	if n == 0 {
		yield("")
		return
	}
	for _, piece := range pieces {
		all(pieces, n-1, func(s string) { yield(piece + s) })
	}
}

// allBytes is each byte as a text.
func allBytes() []string {
	var list []string
	for c := range 256 {
		list = append(list, string([]byte{byte(c)}))
	}
	return list
}

// signsByWords are all signs, as the chapter writes them.
func signsByWords() []string {
	return strings.Fields(`-> && || == != <= >= ~= ( ) { } ; ! < > + - * / % ^ . $ @ & , =`)
}

// drawnBytes is a text of up to so many bytes, of which some mean something in a string.
func drawnBytes(r *rand.Rand, most int) string {
	b := make([]byte, r.Intn(most+1))
	for i := range b {
		b[i] = byte(r.Intn(256))
		if r.Intn(2) == 0 {
			b[i] = "\"\\\n\t\r ntr0123456789ab#;"[r.Intn(23)]
		}
	}
	return string(b)
}

// drawnString is a string of some pieces.
func drawnString(r *rand.Rand) string {
	pieces := []string{"a", " ", "#", "\t", "\r", "\x00", "\xc8", "\u00e9", "n", "7", ";", `\"`, `\\`, `\n`, `\t`, `\r`, `\000`, `\377`, `\1017`, `\042`, `\134`, "\\\n", "\\\n \t\r ", "\\\n\\\n"}
	text := ""
	for range r.Intn(6) {
		text += pieces[r.Intn(len(pieces))]
	}
	return `"` + text + `"`
}

// drawnToken is a token.
func drawnToken(r *rand.Rand) string {
	digits := func() string {
		b := make([]byte, 1+r.Intn(3))
		for i := range b {
			b[i] = '0' + byte(r.Intn(10))
		}
		return string(b)
	}
	switch r.Intn(6) {
	case 0:
		names := []string{"a", "_", "of", "off", "A1", "x_9", "true", "Z", "_0", "z_a_Z"}
		return names[r.Intn(len(names))]
	case 1:
		return digits()
	case 2:
		return digits() + "." + digits()
	case 3:
		return drawnString(r)
	case 4:
		return digits() + "-of"
	}
	list := signsByWords()
	return list[r.Intn(len(list))]
}

// drawnBlank is something blank; where it begins a remark, it also ends it.
func drawnBlank(r *rand.Rand) string {
	pieces := []string{" ", "\t", "\r", "\n", "  ", "#\n", "# a \"b; c\n", "#\\\n", "##\x00\xc8?\r\n", "\r\n"}
	text := pieces[r.Intn(len(pieces))]
	for r.Intn(3) == 0 {
		text += pieces[r.Intn(len(pieces))]
	}
	return text
}

// drawnBody is a body with tokens; between some of them nothing blank stands, so that they may go together.
func drawnBody(r *rand.Rand) string {
	body := ""
	for range r.Intn(8) {
		if r.Intn(2) == 0 {
			body += drawnBlank(r)
		}
		piece := drawnToken(r)
		if strings.HasSuffix(body, "|") || strings.HasSuffix(body, "~") {
			body += " "
		}
		body += piece
	}
	switch r.Intn(4) {
	case 0:
		body += drawnBlank(r)
	case 1:
		body += "# x"
	}
	return body
}
