package tokens_test

import (
	"math/rand"
	"slices"
	"strings"
	"testing"

	"vouch/api"
)

// P14.1: the chapter's examples.
func TestExamples(t *testing.T) {
	cuts(t, "")
	cuts(t, "# x\n")
	cuts(t, `a1 -> "b"; # c`, tok(name, "a1", 0, 2), tok(sign, "->", 3, 5), tok(str, "b", 6, 9), tok(sign, ";", 9, 10))
	cuts(t, "12 1.5 1. 2-of( 2-off", tok(number, "12", 0, 2), tok(dec, "1.5", 3, 6), tok(number, "1", 7, 8), tok(sign, ".", 8, 9),
		tok(of, "2", 10, 14), tok(sign, "(", 14, 15), tok(number, "2", 16, 17), tok(sign, "-", 17, 18), tok(name, "off", 18, 21))
	cuts(t, "a.b<=-1", tok(name, "a", 0, 1), tok(sign, ".", 1, 2), tok(name, "b", 2, 3), tok(sign, "<=", 3, 5), tok(sign, "-", 5, 6), tok(number, "1", 6, 7))
	cuts(t, "\"a\\\"\\\\\\n\\101\\\n    b\"", tok(str, "a\"\\\nAb", 0, 20))
	refuses(t, "a ~ b", 2, api.ErrToken)
	refuses(t, "a | b", 2, api.ErrToken)
	refuses(t, "?", 0, api.ErrToken)
	for _, body := range []string{`"a`, "\"a\n", `"a\`, `"a\1`} {
		refuses(t, body, 0, api.ErrString)
	}
	refuses(t, `"a\q"`, 2, api.ErrSlash)
	refuses(t, `"\400"`, 1, api.ErrSlash)
	refuses(t, `"\19"`, 1, api.ErrSlash)
}

// P14.1: what is blank, and remarks; a # in a string begins none.
func TestBlanks(t *testing.T) {
	for _, body := range []string{" ", "\t", "\n", "\r", " \t\r\n ", "#", "##", "#\n", "# a", "#\"", "#\\\n", "#\x00\xc8?~|", "# a\n\n#b\n ", "#\n#", "#\r#\n"} {
		cuts(t, body)
		cuts(t, body+"\na", tok(name, "a", len(body)+1, len(body)+2))
		cuts(t, "a"+body, tok(name, "a", 0, 1))
		cuts(t, "a"+body+"\nb", tok(name, "a", 0, 1), tok(name, "b", len(body)+2, len(body)+3))
	}
	cuts(t, "a#b\rc\nd", tok(name, "a", 0, 1), tok(name, "d", 6, 7))
	cuts(t, `"#"#"`, tok(str, "#", 0, 3))
	for _, c := range allBytes() {
		if strings.Contains("\t\n\r ", c) {
			cuts(t, c+"a", tok(name, "a", 1, 2))
			cuts(t, "a"+c+"b"+c, tok(name, "a", 0, 1), tok(name, "b", 2, 3))
		}
		if c != "\n" {
			cuts(t, "a #"+c+"b", tok(name, "a", 0, 1))
			cuts(t, "a #"+c+"\nb", tok(name, "a", 0, 1), tok(name, "b", 5, 6))
		}
	}
}

// P14.1: each byte alone, and behind and ahead of some tokens.
func TestBytes(t *testing.T) {
	for _, c := range allBytes() {
		e := holds(t, c)
		if want := !strings.Contains("\t\n\r #", c) && kindOf(c) == 0; (e != 0) != want {
			t.Fatalf("%q: error %d", c, e)
		}
		for _, s := range []string{"", "a", "1", "1.", "1.5", "1-", "1-o", "1-of", "_", ";", "-", "=", `"a"`, "|", "&", "!", "<", ">", "~", " ", "#"} {
			for _, behind := range []string{"", "a", "1", "=", ">", " ", ";"} {
				holds(t, s+c+behind)
			}
		}
	}
}

// kindOf is the kind of a token of one byte; 0 of all other bytes.
func kindOf(c string) uint8 {
	switch {
	case strings.Contains("abcdefghijklmnopqrstuvwxyzABCDEFGHIJKLMNOPQRSTUVWXYZ_", c):
		return name
	case strings.Contains("0123456789", c):
		return number
	case slices.Contains(signsByWords(), c):
		return sign
	}
	return 0
}

// P14.1: each token of one byte.
func TestOneByte(t *testing.T) {
	count := 0
	for _, c := range allBytes() {
		if kind := kindOf(c); kind != 0 {
			count++
			cuts(t, c, tok(kind, c, 0, 1))
		}
	}
	if count != 53+10+20 {
		t.Errorf("%d tokens of one byte", count)
	}
	for _, c := range allBytes() {
		if kindOf(c) == 0 && !strings.Contains("\t\n\r #\"", c) {
			refuses(t, c, 0, api.ErrToken)
			refuses(t, "a "+c+" ?\"", 2, api.ErrToken)
		}
	}
	refuses(t, `"`, 0, api.ErrString)
}

// P14.1: each sign, and each two that stand without a blank between.
func TestSigns(t *testing.T) {
	list := signsByWords()
	if len(list) != 28 {
		t.Fatalf("%d signs", len(list))
	}
	for _, s := range list {
		cuts(t, s, tok(sign, s, 0, len(s)))
		cuts(t, "a"+s+"b", tok(name, "a", 0, 1), tok(sign, s, 1, len(s)+1), tok(name, "b", len(s)+1, len(s)+2))
		for _, other := range list {
			holds(t, s+other)
			cuts(t, s+" "+other, tok(sign, s, 0, len(s)), tok(sign, other, len(s)+1, len(s)+1+len(other)))
		}
	}
	cuts(t, "===", tok(sign, "==", 0, 2), tok(sign, "=", 2, 3))
	cuts(t, "-->", tok(sign, "-", 0, 1), tok(sign, "->", 1, 3))
	cuts(t, "->=", tok(sign, "->", 0, 2), tok(sign, "=", 2, 3))
	cuts(t, "&&&", tok(sign, "&&", 0, 2), tok(sign, "&", 2, 3))
	cuts(t, "!==", tok(sign, "!=", 0, 2), tok(sign, "=", 2, 3))
	cuts(t, "=<", tok(sign, "=", 0, 1), tok(sign, "<", 1, 2))
	refuses(t, "|||", 2, api.ErrToken)
	refuses(t, "=~", 1, api.ErrToken)
	refuses(t, "~~=", 0, api.ErrToken)
	refuses(t, "| |", 0, api.ErrToken)
	all([]string{"-", ">", "&", "|", "=", "!", "<", "~", "."}, 4, func(body string) { holds(t, body) })
}

// P14.1: all two bytes, one behind the other.
func TestTwoBytes(t *testing.T) {
	all(allBytes(), 2, func(body string) { holds(t, body) })
}

// P14.1: numbers, and what goes with them.
func TestNumbers(t *testing.T) {
	cuts(t, "007", tok(number, "007", 0, 3))
	cuts(t, "1a", tok(number, "1", 0, 1), tok(name, "a", 1, 2))
	cuts(t, "a1_2", tok(name, "a1_2", 0, 4))
	cuts(t, "1.5.25", tok(dec, "1.5", 0, 3), tok(sign, ".", 3, 4), tok(number, "25", 4, 6))
	cuts(t, "12.345x", tok(dec, "12.345", 0, 6), tok(name, "x", 6, 7))
	cuts(t, ".5", tok(sign, ".", 0, 1), tok(number, "5", 1, 2))
	cuts(t, "1..5", tok(number, "1", 0, 1), tok(sign, ".", 1, 2), tok(sign, ".", 2, 3), tok(number, "5", 3, 4))
	cuts(t, "1 .5", tok(number, "1", 0, 1), tok(sign, ".", 2, 3), tok(number, "5", 3, 4))
	cuts(t, "012-of", tok(of, "012", 0, 6))
	cuts(t, "2-of-of", tok(of, "2", 0, 4), tok(sign, "-", 4, 5), tok(name, "of", 5, 7))
	cuts(t, "2-of\n", tok(of, "2", 0, 4))
	cuts(t, `2-of"f"`, tok(of, "2", 0, 4), tok(str, "f", 4, 7))
	cuts(t, "2-of#f", tok(of, "2", 0, 4))
	cuts(t, "2-of.5", tok(of, "2", 0, 4), tok(sign, ".", 4, 5), tok(number, "5", 5, 6))
	cuts(t, "1.2-of", tok(dec, "1.2", 0, 3), tok(sign, "-", 3, 4), tok(name, "of", 4, 6))
	cuts(t, "1.-of", tok(number, "1", 0, 1), tok(sign, ".", 1, 2), tok(sign, "-", 2, 3), tok(name, "of", 3, 5))
	cuts(t, "a2-of", tok(name, "a2", 0, 2), tok(sign, "-", 2, 3), tok(name, "of", 3, 5))
	refuses(t, "2-of\xc8", 4, api.ErrToken)
	for _, behind := range []string{"a", "Z", "_", "0", "of"} {
		cuts(t, "2-of"+behind, tok(number, "2", 0, 1), tok(sign, "-", 1, 2), tok(name, "of"+behind, 2, 4+len(behind)))
	}
	for _, other := range []string{"-Of", "-OF", "-oF", "- of", "-o", "->of"} {
		holds(t, "2"+other)
		holds(t, "2"+other+"(")
	}
	all([]string{"0", "19", ".", "-", "of", "-of", "_", "a", " ", "(", "\xc8"}, 5, func(body string) { holds(t, body) })
}

// P14.1: drawn bodies that have tokens, as they are and with a byte changed, put in or left out.
func TestDrawn(t *testing.T) {
	r := rand.New(rand.NewSource(141))
	const bytes = "\"\"\\\\\\\n \t\r#aOf_019.-|~=>&?\x00\x7f\xc8"
	seen := map[api.Errno]int{}
	for range 30000 {
		body := drawnBody(r)
		seen[holds(t, body)]++
		if body == "" {
			continue
		}
		at, c := r.Intn(len(body)), bytes[r.Intn(len(bytes))]
		for _, other := range []string{body[:at] + string([]byte{c}) + body[at+1:], body[:at] + string([]byte{c}) + body[at:], body[:at] + body[at+1:], body[at:], body[:at], body + body[at:]} {
			seen[holds(t, other)]++
		}
	}
	for _, e := range []api.Errno{api.OK, api.ErrToken, api.ErrString, api.ErrSlash} {
		if seen[e] < 1000 {
			t.Errorf("only %d bodies with error %d", seen[e], e)
		}
	}
}

// P14.1: the first error from the left counts, whatever follows.
func TestFirstError(t *testing.T) {
	refuses(t, `? "a`, 0, api.ErrToken)
	refuses(t, `"a" ? "a`, 4, api.ErrToken)
	refuses(t, "\"a\n?", 0, api.ErrString)
	refuses(t, `a "b" "\q" ?`, 7, api.ErrSlash)
	refuses(t, `a "\q`, 3, api.ErrSlash)
	refuses(t, "a \"\\q\n", 3, api.ErrSlash)
	refuses(t, "a \"b\n\\q\"", 2, api.ErrString)
	refuses(t, `"\q\400"`, 1, api.ErrSlash)
	refuses(t, `"\377\400\q"`, 5, api.ErrSlash)
	refuses(t, `a;b;"`, 4, api.ErrString)
	refuses(t, "# ?\n?", 4, api.ErrToken)
}
