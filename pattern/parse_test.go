package pattern_test

import (
	"fmt"
	"math/rand"
	"strings"
	"testing"

	"vouch/api"
)

// The chapter's examples of Parse.
func TestExamplesOfParse(t *testing.T) {
	a, b, c := set("a"), set("b"), set("c")
	reads(t, "", none())
	reads(t, "a", a)
	reads(t, "ab", row(a, b))
	reads(t, "a|", choice(a, none()))
	reads(t, "(ab)c", row(row(a, b), c))
	reads(t, "((a))", a)
	reads(t, "()", none())
	reads(t, "a*?", repeat(0, 1, repeat(0, -1, a)))
	reads(t, "a{2}", repeat(2, 2, a))
	reads(t, "a{2,}", repeat(2, -1, a))
	reads(t, "a{0,255}", repeat(0, 255, a))
	reads(t, "^a$", row(begin(), a, end()))
	reads(t, `\.`, set("."))
	reads(t, "]}", row(set("]"), set("}")))
	reads(t, "[]a]", set("]a"))
	reads(t, "[^-a]", but("-a"))
	reads(t, "[a-c-]", set("abc-"))
	reads(t, "[[.-.]-[.0.]]", set("-./0"))
	reads(t, `[\n]`, set(`\n`))
	reads(t, "[[:digit:]x]", set("0123456789x"))
	reads(t, "[[=a=]b]", set("ab"))
	refuses(t, api.ErrRepeat, "*a", "a|+", "(?)", "{1}")
	refuses(t, api.ErrInterval, "a{", "a{,2}", "a{3,2}", "a{256}", "a{0001}")
	refuses(t, api.ErrEscape, `a\`)
	refuses(t, api.ErrParen, "(a", "a)")
	refuses(t, api.ErrBracket, "[a", "[]", "[[.ab.]]", "[a-[:digit:]]")
	refuses(t, api.ErrRange, "[b-a]")
	refuses(t, api.ErrClass, "[[:foo:]]")
}

// P10.2: alternatives and groups; a group of one thing is that thing, one of several is a part by itself.
func TestAlternatives(t *testing.T) {
	a, b, c := set("a"), set("b"), set("c")
	reads(t, "|", choice(none(), none()))
	reads(t, "||", choice(none(), none(), none()))
	reads(t, "|a", choice(none(), a))
	reads(t, "a|b|c", choice(a, b, c))
	reads(t, "ab|c", choice(row(a, b), c))
	reads(t, "(a|b)|c", choice(choice(a, b), c))
	reads(t, "a|(b|c)", choice(a, choice(b, c)))
	reads(t, "(a|b)c", row(choice(a, b), c))
	reads(t, "a(bc)", row(a, row(b, c)))
	reads(t, "a()b", row(a, none(), b))
	reads(t, "()()", row(none(), none()))
	reads(t, "(())", none())
	reads(t, "(|)", choice(none(), none()))
	reads(t, "(|)|()", choice(choice(none(), none()), none()))
	reads(t, "(a)(b)", row(a, b))
	reads(t, "((ab))", row(a, b))
	reads(t, "((ab)c)", row(row(a, b), c))
	reads(t, "((a)|(b))", choice(a, b))
	refuses(t, api.ErrParen, ")", "a)", "())", "a|)", "(a))", ")(", "a)*", "a)[", "(", "()(", "(a|b", "((a)", "(|", "a(", "([a])(")
}

// P10.2: signs of repetition, as many as stand there, of whatever stands ahead.
func TestRepetition(t *testing.T) {
	a, b := set("a"), set("b")
	reads(t, "a*", repeat(0, -1, a))
	reads(t, "a+", repeat(1, -1, a))
	reads(t, "a?", repeat(0, 1, a))
	reads(t, "ab*", row(a, repeat(0, -1, b)))
	reads(t, "a|b+", choice(a, repeat(1, -1, b)))
	reads(t, "(ab)?", repeat(0, 1, row(a, b)))
	reads(t, "(a|b){3}", repeat(3, 3, choice(a, b)))
	reads(t, "()*", repeat(0, -1, none()))
	reads(t, "(a*)*", repeat(0, -1, repeat(0, -1, a)))
	reads(t, "a*+?{1}{2,}{3,4}", repeat(3, 4, repeat(2, -1, repeat(1, 1, repeat(0, 1, repeat(1, -1, repeat(0, -1, a)))))))
	reads(t, "^*$+", row(repeat(0, -1, begin()), repeat(1, -1, end())))
	reads(t, ".?[ab]*", row(repeat(0, 1, but("")), repeat(0, -1, set("ab"))))
	reads(t, `\**`, repeat(0, -1, set("*")))
	reads(t, "}*]+,?", row(repeat(0, -1, set("}")), repeat(1, -1, set("]")), repeat(0, 1, set(","))))
	refuses(t, api.ErrRepeat, "*", "+", "?", "{", "{2}", "{x", "a|*", "|?", "(*", "(+)", "a({", "(|{1})", "(a|?", "()|*", "*)", "a|**")
	long := repeat(0, -1, a)
	for range mostBytes - 2 {
		long = repeat(0, -1, long)
	}
	reads(t, "a"+strings.Repeat("*", mostBytes-1), long)
}

// P10.2: every pair of numbers of an interval, in every way to write them.
func TestIntervals(t *testing.T) {
	a := set("a")
	for least := range 300 {
		if least > mostTimes {
			refuses(t, api.ErrInterval, fmt.Sprintf("a{%d}", least), fmt.Sprintf("a{%d,}", least), fmt.Sprintf("a{0,%d}", least), fmt.Sprintf("a{%d,%d}", least, least), fmt.Sprintf("a{%d,1}", least))
			continue
		}
		for _, form := range []string{"%d", "%02d", "%03d"} {
			number := fmt.Sprintf(form, least)
			reads(t, "a{"+number+"}", repeat(least, least, a))
			reads(t, "a{"+number+",}", repeat(least, -1, a))
			for _, most := range []int{0, 1, 9, 10, 99, 100, 254, 255, least - 1, least, least + 1} {
				text := "a{" + number + "," + fmt.Sprintf(form, most) + "}"
				if most < least || most > mostTimes {
					refuses(t, api.ErrInterval, text)
				} else {
					reads(t, text, repeat(least, most, a))
				}
			}
		}
	}
	reads(t, "a{1}}", row(repeat(1, 1, a), set("}")))
	reads(t, "a{1},", row(repeat(1, 1, a), set(",")))
	for _, inside := range []string{"", ",", ",,", ",1", "1,2,3", "1,,", "1,,2", ",1,", "-1", "1,-1", "+1", "1,+2", "0x1", "1_0", " 1", "1 ", "1, 2", "1 ,2", "1.", "a", "1a", "a1", "1,a", "0001", "0000", "1,0001", "0001,1", "0000,", "1000", "1,1000", "999", "256", "256,", "1,256", "256,256", "255,256", "2,1", "255,254", "18446744073709551617", "{1}", "1{2", "1]", "1)", "1|2", "\xb2", "\u0661", "1\x00", "\x001"} {
		refuses(t, api.ErrInterval, "a{"+inside+"}", "a{"+inside+"}}", "a{"+inside+"}{1}", "a{"+inside, "(a{"+inside, "a*{"+inside+"}", "()b{"+inside+"})")
	}
	refuses(t, api.ErrInterval, "a{1", "a{1,", "a{1,2", "a{12", "a{1)}", "a{1*", "a{1{1}", "a{1|}")
}

// P10.2: a byte alone, behind a \ and in a bracket; all 256 of them.
func TestEachByte(t *testing.T) {
	for c := range 256 {
		s := string([]byte{byte(c)})
		reads(t, `\`+s, set(s))
		reads(t, "a"+`\`+s+"b", row(set("a"), set(s), set("b")))
		reads(t, "[[."+s+".]]", set(s))
		reads(t, "[[="+s+"=]]", set(s))
		reads(t, "[^[."+s+".]]", but(s))
		reads(t, "[^[="+s+"=]]", but(s))
		if strings.Contains(`.^$\[|)*+?{(`, s) {
			continue
		}
		reads(t, s, set(s))
		reads(t, s+s+"|"+s, choice(row(set(s), set(s)), set(s)))
	}
	reads(t, ".", but(""))
	refuses(t, api.ErrEscape, `\`, `a\`, `\\\`, `(\`, `a|\`, `[a]\`, `a*\`, `(((\`)
	reads(t, `\\`, set(`\`))
	reads(t, "é", row(set("\xc3"), set("\xa9")))
}

// P10.2: 64 ( may be open at once, and no more; how many there are in all does not matter.
func TestOpen(t *testing.T) {
	deep := func(n int, s string) string { return strings.Repeat("(", n) + s + strings.Repeat(")", n) }
	reads(t, deep(64, "a"), set("a"))
	reads(t, deep(64, ""), none())
	reads(t, deep(64, "a")+deep(64, "b"), row(set("a"), set("b")))
	reads(t, deep(64, `\([(]`), row(set("("), set("(")))
	reads(t, deep(63, "(a)(b)"), row(set("a"), set("b")))
	reads(t, deep(63, "(a)|(b)"), choice(set("a"), set("b")))
	refuses(t, api.ErrLimit, deep(65, "a"), deep(64, "(a)"), deep(63, "a(b(c))"), strings.Repeat("(", 65), strings.Repeat("(", 1024), deep(64, "a")+deep(65, ""), strings.Repeat("(", 65)+"*")
	refuses(t, api.ErrParen, strings.Repeat("(", 64), deep(64, "a")+")", deep(64, "a")+"(")
	refuses(t, api.ErrRepeat, strings.Repeat("(", 64)+"*(", deep(64, "?"))
	refuses(t, api.ErrParen, strings.Repeat("()", 65)+strings.Repeat("(", 64))
	refuses(t, api.ErrLimit, strings.Repeat("(a", 65))
}

// P10.2: a text of 1024 bytes is read, one more is refused ahead of all else.
func TestLengths(t *testing.T) {
	reads(t, strings.Repeat("a", 1024), row(many(1024, set("a"))...))
	reads(t, strings.Repeat("|", 1024), choice(many(1025, none())...))
	reads(t, strings.Repeat("()", 512), row(many(512, none())...))
	reads(t, strings.Repeat(".|", 512), choice(append(many(512, but("")), none())...))
	reads(t, "["+strings.Repeat("b", 1022)+"]", set("b"))
	refuses(t, api.ErrLimit, strings.Repeat("a", 1025), strings.Repeat("|", 1025), strings.Repeat("*", 1025), "*"+strings.Repeat("a", 1024), "["+strings.Repeat("b", 1023)+"]", strings.Repeat("a", 1<<22), strings.Repeat(")", 1025))
	refuses(t, api.ErrRepeat, strings.Repeat("*", 1024))
	refuses(t, api.ErrBracket, strings.Repeat("a", 1023)+"[", "["+strings.Repeat("b", 1023))
	refuses(t, api.ErrEscape, strings.Repeat("a", 1023)+`\`)
	for n := range 1100 {
		holds(t, strings.Repeat("a", n))
		holds(t, strings.Repeat("(|b)", n/4))
		holds(t, strings.Repeat("|ab", n/3))
	}
}

// P10.2: what is met first is the answer.
func TestFirst(t *testing.T) {
	wrong := map[string]api.Errno{"|*": 104, "a{": 105, `\`: 106, ")": 100, "[": 101, "[b-a]": 102, "[[:x:]]": 103}
	for s, e := range wrong {
		for behind := range wrong {
			if s != `\` && s != "[" {
				refuses(t, e, s+behind, "ab"+s+behind, "a|"+s+"x"+behind)
			}
		}
	}
	for _, ahead := range []string{"(", "((", "(a|", "()("} {
		for s, e := range wrong {
			if s != ")" {
				refuses(t, e, ahead+s)
			}
		}
	}
}

// P10.2: all short texts of what matters outside of brackets.
func TestFewLetters(t *testing.T) {
	count := map[api.Errno]int{}
	for n := range 7 {
		all(letters(`ab()|*{`), n, func(s string) { count[holds(t, s)]++ })
	}
	for n := range 6 {
		all(letters(`a(|)?\^.$}`), n, func(s string) { count[holds(t, s)]++ })
		all(letters(`a([]{1,})`), n, func(s string) { count[holds(t, s)]++ })
	}
	for n := range 7 {
		all(letters(`12,}0`), n, func(s string) { count[holds(t, "a{"+s)]++ })
	}
	for _, e := range []api.Errno{api.OK, api.ErrParen, api.ErrRepeat, api.ErrInterval, api.ErrEscape, api.ErrBracket} {
		if count[e] < 500 {
			t.Errorf("error %d came %d times", e, count[e])
		}
	}
}

// P10.2: drawn texts, short and long.
func TestDrawn(t *testing.T) {
	r := rand.New(rand.NewSource(101))
	count := map[api.Errno]int{}
	pieces := []string{"a", "b", "\x00", "\xff", "\xc3\xa9", "(", ")", "(", ")", "|", "|", "*", "+", "?", "{2}", "{0,3}", "{1,}", "{", "}", "[ab]", "[^a-z]", "[[:alpha:]", "]", "[", "-", ":]", "[:punct:]", "[=a=]", "[.-.]", `\`, `\(`, ".", "^", "$", "a*", "(a|b)", "\n"}
	for range 60000 {
		count[holds(t, drawnFrom(r, pieces, 1+r.Intn(12)))]++
	}
	harmless := []string{"a", "b", "(a)", "(a|b)", "|", "a*", "[ab]", "[[:digit:]]", ".", "^", "$", "()", "(|)", "(a*b)?", "((ab)|c){2,3}", `\|`, "[]]", "[^]-a]"}
	for range 3000 {
		s := drawnFrom(r, harmless, 1+r.Intn(300))
		count[holds(t, s)]++
		at := r.Intn(len(s))
		count[holds(t, s[:at]+drawnFrom(r, pieces, r.Intn(2))+s[at+r.Intn(2):])]++
	}
	for range 20000 {
		b := make([]byte, r.Intn(24))
		r.Read(b)
		count[holds(t, string(b))]++
	}
	for _, e := range []api.Errno{api.OK, api.ErrLimit, api.ErrParen, api.ErrBracket, api.ErrRange, api.ErrClass, api.ErrRepeat, api.ErrInterval, api.ErrEscape} {
		if count[e] < 20 {
			t.Errorf("error %d came %d times", e, count[e])
		}
	}
}
