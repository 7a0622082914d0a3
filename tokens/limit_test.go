package tokens_test

import (
	"slices"
	"strings"
	"testing"

	"vouch/api"
)

// P14.1: ErrLimit at 0 with more than 65536 bytes, ahead of all else.
func TestMostBytes(t *testing.T) {
	long := strings.Repeat("x", mostBytes)
	cuts(t, long, tok(name, long, 0, mostBytes))
	cuts(t, long[1:], tok(name, long[1:], 0, mostBytes-1))
	cuts(t, strings.Repeat("1", mostBytes), tok(number, strings.Repeat("1", mostBytes), 0, mostBytes))
	cuts(t, strings.Repeat(" ", mostBytes))
	cuts(t, "#"+long[1:])
	cuts(t, strings.Repeat(" ", mostBytes-1)+";", tok(sign, ";", mostBytes-1, mostBytes))
	cuts(t, `"`+long[2:]+`"`, tok(str, long[2:], 0, mostBytes))
	refuses(t, `"`+long[1:], 0, api.ErrString)
	refuses(t, `"`+long[2:]+`\`, 0, api.ErrString)
	refuses(t, `"`+long[3:]+`\q`, mostBytes-2, api.ErrSlash)
	refuses(t, long[1:]+"?", mostBytes-1, api.ErrToken)
	for _, body := range []string{long + "x", long + " ", long + "?", "?" + long, `"` + long, long + long, strings.Repeat("\n", mostBytes+1), strings.Repeat(";", mostBytes+1), strings.Repeat("?", mostBytes+1), "#" + long} {
		refuses(t, body, 0, api.ErrLimit)
	}
}

// P14.1: ErrLimit at what stands behind 8192 tokens, whatever it is.
func TestMostTokens(t *testing.T) {
	most := strings.Repeat("a;", mostTokens/2)
	list := make([]api.Token, 0, mostTokens)
	for at := 0; at < mostTokens; at += 2 {
		list = append(list, tok(name, "a", at, at+1), tok(sign, ";", at+1, at+2))
	}
	cuts(t, most, list...)
	cuts(t, most[1:mostTokens-1]+" ", moved(list[1:mostTokens-1], -1)...)
	for _, blank := range []string{"", " ", "\n\t\r ", "# a ; ? \"\n", "#\n\n"} {
		cuts(t, most+blank, list...)
		cuts(t, most+blank+"# ; ?", list...)
		cuts(t, blank+most, moved(list, len(blank))...)
		for _, one := range []string{"a", "1", "1.5", "1-of", `"b"`, ";", "->", `"`, `"\q"`, "\"\n", "?", "~", "|", "\x00", "\xc8"} {
			refuses(t, most+blank+one, mostTokens+len(blank), api.ErrLimit)
			refuses(t, most+blank+one+" ? \"", mostTokens+len(blank), api.ErrLimit)
		}
	}
	refuses(t, most[:mostTokens-1]+"?;", mostTokens-1, api.ErrToken)
	refuses(t, most[:mostTokens-1]+`"\q`, mostTokens, api.ErrSlash)
	refuses(t, most[:mostTokens-1]+`"b`, mostTokens-1, api.ErrString)
	refuses(t, strings.Repeat(";", mostBytes), mostTokens, api.ErrLimit)
	refuses(t, strings.Repeat(`"";`, mostTokens), mostTokens/2*3, api.ErrLimit)
	refuses(t, strings.Repeat(";", mostTokens-1)+"1.5"+strings.Repeat("?", 100), mostTokens+2, api.ErrLimit)
}

// moved are the tokens, so many bytes further on.
func moved(list []api.Token, by int) []api.Token {
	list = slices.Clone(list)
	for i := range list {
		list[i].At += by
		list[i].End += by
	}
	return list
}
