package match_test

import (
	"math/rand"
	"strings"
	"testing"

	"vouch/api"
	"vouch/match"
	"vouch/nfa"
	"vouch/pattern"
)

// wrong are patterns of which no machine is told, and what is told.
func wrong() map[string]api.Errno {
	return map[string]api.Errno{
		"a(": 100, "a)": 100, "((a)": 100, "[a": 101, "[]": 101, "[[:alpha:": 101, "[[.ab.]]": 101, "[a-[:digit:]]": 101, "[b-a]": 102, "[[:foo:]]": 103,
		"*": 104, "a|+": 104, "(?)": 104, "{1}": 104, "a{": 105, "a{,2}": 105, "a{3,2}": 105, "a{256}": 105, `a\`: 106, `\`: 106,
		strings.Repeat("a", 1025): 3, strings.Repeat("(", 1025): 3, strings.Repeat("(", 65) + strings.Repeat(")", 65): 3,
		"a{255}{255}": 3, "a{255}{17}": 3, "a{255}{16}a{16}": 3, "(a{255}){255}b{255}{255}{255}": 3, "a{0,255}{8}a{16}": 3, "a{255}{255}(": 100, "a{255}{255}{256}": 105, "a{255}{255}*{": 105,
	}
}

// P12.2: Compile tells what Parse refuses, then what Make refuses, and no machine.
func TestCompileRefused(t *testing.T) {
	for text, want := range wrong() {
		if m, e := match.Compile(text); e != want || m.States != nil || m.Start != 0 {
			t.Errorf("Compile(%.60q): %.200s, error %d, want error %d", text, machineShown(m), e, want)
		}
	}
}

// P12.2: else the tree's machine.
func TestCompile(t *testing.T) {
	for text, want := range map[string]api.Nfa{
		"": machine(0, done()), "()": machine(0, done()), "a": machine(1, done(), onSet("a", 0)), "ab": machine(2, done(), onSet("b", 0), onSet("a", 1)),
		"a|b|": machine(4, done(), onSet("a", 0), onSet("b", 0), fork(2, 0), fork(1, 3)), "^$": machine(2, done(), atEnd(0), atBegin(1)), "a*": machine(1, done(), fork(2, 0), onSet("a", 1)),
	} {
		if m, e := match.Compile(text); e != api.OK || !equal(m, want) {
			t.Errorf("Compile(%q): %s, error %d, want %s", text, machineShown(m), e, machineShown(want))
		}
	}
	m, e := match.Compile("a{255}{16}a{15}")
	if e != api.OK || len(m.States) != mostStates || m.Start != mostStates-1 {
		t.Errorf("the greatest machine: %d states, begun at %d, error %d", len(m.States), m.Start, e)
	}
}

// drawnPattern is a text that may be a pattern.
func drawnPattern(r *rand.Rand) string {
	const signs = "aaaabbc|()()*+?^$.[]-\\{}12,"
	if r.Intn(3) > 0 {
		return drawnText(r, signs, 8)
	}
	pieces := []string{"a", "b", "(", ")", "|", "*", "+", "?", "{2}", "{0,3}", "{1,}", "[a-b]", "[^a]", "^", "$", ".", "{255}", "[[:alpha:]]"}
	text := ""
	for range r.Intn(10) {
		text += pieces[r.Intn(len(pieces))]
	}
	return text
}

// P12.2, P12.3: of drawn patterns Compile tells what Parse and Make tell, Find what Compile and Has tell.
func TestDrawnPatterns(t *testing.T) {
	r := rand.New(rand.NewSource(123))
	good := 0
	for range 40000 {
		text, subject := drawnPattern(r), drawnText(r, "abc", 6)
		tree, e := pattern.Parse(text)
		var want api.Nfa
		if e == api.OK {
			want, e = nfa.Make(tree)
		}
		m, e1 := match.Compile(text)
		if e1 != e || !equal(m, want) {
			t.Fatalf("Compile(%q): %.400s, error %d, want %.400s, error %d", text, machineShown(m), e1, machineShown(want), e)
		}
		ok, n, e2 := match.Find(text, subject)
		if e2 != e || e != api.OK && (ok || n != 0) {
			t.Fatalf("Find(%q, %q): %t, %d steps, error %d, want error %d", text, subject, ok, n, e2, e)
		}
		if e == api.OK && len(m.States) < 200 {
			good++
			want, steps := hasByWords(m, subject)
			finds(t, text, subject, want, steps)
			tells(t, m, subject, want, steps)
		}
	}
	if good < 10000 {
		t.Errorf("only %d patterns have a machine", good)
	}
}

// P12.3: the chapter's examples.
func TestExamples(t *testing.T) {
	for _, x := range []struct {
		pattern, text string
		want          bool
		steps         int
	}{
		{"a", "", false, 1}, {"a", "bab", true, 4}, {"", "", true, 1}, {"^a", "ba", false, 4}, {"a$", "ba", true, 5}, {"^$", "", true, 3}, {"a*", "b", true, 3},
		{"(ab)+c", "xababc", true, 17}, {"[[:digit:]]{3}", "a12b345", true, 17},
	} {
		finds(t, x.pattern, x.text, x.want, x.steps)
	}
}

// P12.3: what is found, and what is not.
func TestFind(t *testing.T) {
	for _, x := range []struct {
		pattern, text string
		want          bool
	}{
		{"abc", "ababc", true}, {"abc", "abab", false}, {"a|b", "ccb", true}, {"a|b", "cc", false}, {"^(a|b)*$", "abba", true}, {"^(a|b)*$", "abca", false}, {"^a{2,3}$", "a", false}, {"^a{2,3}$", "aa", true}, {"^a{2,3}$", "aaa", true}, {"^a{2,3}$", "aaaa", false},
		{"a^b", "ab", false}, {"a$b", "ab", false}, {"$", "ab", true}, {"^", "ab", true}, {"$^", "", true}, {"$^", "a", false}, {"(^a|b$)", "ca", false}, {"(^a|b$)", "cb", true}, {"(^|a)b", "b", true}, {"(^|a)b", "cb", false}, {"(^|a)b", "cab", true},
		{"", "abc", true}, {"(a*)*", "", true}, {"(a*)*b", "aaac", false}, {"(a*)*b", "aaab", true}, {".", "", false}, {".", "\n", true}, {".", "\x00", true}, {"^.$", "\xff", true}, {"^.$", "\u00e9", false}, {"^..$", "\u00e9", true}, {"\u00e9", "caf\u00e9", true}, {"[^a]", "a", false}, {"[^a]", "ab", true}, {"^$", "\n", false}, {"a$", "a\n", false}, {"^a", "\na", false},
		{`\.`, "a", false}, {`\.`, "a.", true}, {"A", "a", false}, {"[[:upper:]]", "aB", true}, {"^a.*z$", "alcatraz", true}, {"^a.*z$", "alcatraze", false},
	} {
		if ok, _, e := match.Find(x.pattern, x.text); ok != x.want || e != api.OK {
			t.Errorf("Find(%q, %q): %t, error %d, want %t", x.pattern, x.text, ok, e, x.want)
		}
	}
}

// P12.3: Compile's error, ahead of what Has refuses; then that.
func TestFindRefused(t *testing.T) {
	most := strings.Repeat("a", mostBytes)
	for text, want := range wrong() {
		for _, subject := range []string{"", "a", most, most + "a"} {
			if ok, n, e := match.Find(text, subject); ok || n != 0 || e != want {
				t.Errorf("Find(%.60q, %d bytes): %t, %d steps, error %d, want error %d", text, len(subject), ok, n, e, want)
			}
		}
	}
	for _, text := range []string{"", "a", "b", "^", "a{255}{16}a{15}"} {
		for _, subject := range []string{most + "a", most + most} {
			if ok, n, e := match.Find(text, subject); ok || n != 0 || e != 3 {
				t.Errorf("Find(%q, %d bytes): %t, %d steps, error %d, want error 3", text, len(subject), ok, n, e)
			}
		}
	}
	finds(t, "a", most, true, 3)
	finds(t, "b", most, false, mostBytes+1)
	finds(t, strings.Repeat("a", 1024), most, true, 1025*1026/2)
}
