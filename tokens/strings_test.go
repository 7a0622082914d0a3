package tokens_test

import (
	"fmt"
	"strings"
	"testing"

	"vouch/api"
)

// P14.1: each piece.
func TestPieces(t *testing.T) {
	stands(t, "", "")
	stands(t, `\"`, `"`)
	stands(t, `\\`, `\`)
	stands(t, `\\\\`, `\\`)
	stands(t, `\\\"`, `\"`)
	stands(t, `\n\t\r`, "\n\t\r")
	stands(t, `\\n`, `\n`)
	stands(t, `\0000`, "\x000")
	stands(t, `\3777\1015`, "\xff7A5")
	stands(t, `\134n\042`, `\n"`)
	stands(t, "\\\n", "")
	stands(t, "a\\\n \t\r b", "ab")
	stands(t, "a \\\nb", "a b")
	stands(t, "a\\\n\\\n \\\n\\nb", "a\nb")
	stands(t, "\\\n\\040 b", "  b")
	stands(t, "\\\n#", "#")
	stands(t, "# a ; //", "# a ; //")
	stands(t, "\u00e9\x00\xc8\x7f", "\u00e9\x00\xc8\x7f")
	stands(t, strings.Repeat("a", 30000), strings.Repeat("a", 30000))
	stands(t, strings.Repeat(`\000`, 16000), strings.Repeat("\x00", 16000))
}

// P14.1: each byte in a string: for itself, behind a backslash, in the place of each digit, behind a broken line.
func TestBytesOfStrings(t *testing.T) {
	for _, c := range allBytes() {
		if !strings.Contains("\"\\\n", c) {
			stands(t, c, c)
			stands(t, "a"+c+c+"b", "a"+c+c+"b")
		}
		for _, ahead := range []string{``, `\`, `a\`, `\0`, `\1`, `\3`, `\4`, `\7`, `\00`, `\37`, `\40`, `\77`, `\000`, "\\\n", "\\\n\t", "\\\n\\\n"} {
			for _, behind := range []string{``, `"`, `a"`, `0"`, `00"`, `01`, "\n", `\q"`, `\`, `" ?`} {
				holds(t, `"`+ahead+c+behind)
				holds(t, `; "`+ahead+c+behind)
			}
		}
	}
}

// P14.1: three digits, all of them that may be and those past 377.
func TestThreeDigits(t *testing.T) {
	for n := range 1000 {
		digits := fmt.Sprintf("%03d", n)
		worth := 0
		for _, c := range digits {
			worth = 8*worth + int(c-'0')
		}
		if strings.ContainsAny(digits, "89") || worth > 255 {
			refuses(t, `"a\`+digits+`"`, 2, api.ErrSlash)
			refuses(t, `"a\`+digits, 2, api.ErrSlash)
			refuses(t, `b "\`+digits+`7" ?`, 3, api.ErrSlash)
		} else {
			stands(t, `\`+digits, string([]byte{byte(worth)}))
			refuses(t, `"a\`+digits, 0, api.ErrString)
		}
	}
	for _, digits := range []string{"", "0", "4", "7", "00", "37", "40", "77"} {
		refuses(t, `a"\`+digits, 1, api.ErrString)
		for _, behind := range []string{`"`, "\n", "\n\"", " ", "8", "9", "a", "-", "\x00", "\xb1", "\xc8", "/", ":"} {
			if digits != "" || !strings.ContainsAny(behind, "\"\n") {
				refuses(t, `a"b\`+digits+behind, 3, api.ErrSlash)
				refuses(t, `a"b\`+digits+behind+`11"`, 3, api.ErrSlash)
			}
		}
	}
}

// P14.1: where a string's end lacks: a byte 10, or the body's end.
func TestEndless(t *testing.T) {
	for _, inner := range []string{"", "a", `\"`, `\\`, `\n`, `\101`, "\\\n", "\\\n ", "\\\n\\\n", "#", "; b"} {
		for _, ahead := range []string{"", "a", "; ", "\"\"", "# \"\n"} {
			refuses(t, ahead+`"`+inner, len(ahead), api.ErrString)
			refuses(t, ahead+`"`+inner+"\n", len(ahead), api.ErrString)
			refuses(t, ahead+`"`+inner+"\n\"", len(ahead), api.ErrString)
			refuses(t, ahead+`"`+inner+"\n\\q\"", len(ahead), api.ErrString)
			refuses(t, ahead+`"`+inner+`\`, len(ahead), api.ErrString)
			refuses(t, ahead+`"`+inner+"\\\n\n\"", len(ahead), api.ErrString)
			refuses(t, ahead+`"`+inner+"\\\n \n\"", len(ahead), api.ErrString)
			refuses(t, ahead+`"`+inner+"\\\r\n\"", len(ahead)+1+len(inner), api.ErrSlash)
		}
	}
}

// P14.1: all strings of five bytes behind the first one, out of those that matter.
func TestAllStrings(t *testing.T) {
	seen := map[api.Errno]int{}
	for n := range 6 {
		all([]string{`"`, `\`, "\n", " ", "\r", "0", "3", "4", "8", "n", "\xc8"}, n, func(body string) { seen[holds(t, `"`+body)]++ })
	}
	for _, e := range []api.Errno{api.OK, api.ErrToken, api.ErrString, api.ErrSlash} {
		if seen[e] < 500 {
			t.Errorf("only %d strings with error %d", seen[e], e)
		}
	}
}
