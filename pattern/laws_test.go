package pattern_test

import (
	"math/rand"
	"testing"

	"vouch/api"
	"vouch/pattern"
)

// comesBack: what Parse reads, Print tells as a text of the same tree, or refuses with ErrLimit; and of that text it tells the text itself.
func comesBack(t *testing.T, s string) api.Errno {
	t.Helper()
	n, e := pattern.Parse(s)
	if e != api.OK {
		return e
	}
	text, e := pattern.Print(n)
	if e == api.ErrLimit && text == "" {
		return e
	}
	again, e1 := pattern.Parse(text)
	if e != api.OK || e1 != api.OK || !same(n, again) {
		t.Fatalf("%.200q: Print tells %.200q, error %d; Parse of it %.300s, error %d, want %.300s", s, text, e, shown(again), e1, shown(n))
	}
	if twice, e := pattern.Print(again); e != api.OK || twice != text {
		t.Fatalf("%.200q: Print tells %.200q, error %d, of the tree of %.200q", s, twice, e, text)
	}
	return api.OK
}

// P10.4: short texts of what matters, and drawn ones.
func TestThereAndBack(t *testing.T) {
	count := map[api.Errno]int{}
	for n := range 6 {
		all(letters(`a()|*[]^-`), n, func(s string) { count[comesBack(t, s)]++ })
		all([]string{"a", "(", ")", "|", "{2,}", "{0}", ".", `\(`, "[b-d]", "[^x]", "$"}, n, func(s string) { count[comesBack(t, s)]++ })
	}
	r := rand.New(rand.NewSource(104))
	pieces := []string{"a", "(a)", "(a|b)", "|", "a*", "[ab]", "[[:digit:]]", "[^[:alnum:]]", "[^a]", "[!-~]", ".", "^", "$", "()", "(|)", "(a*b)?", "((ab)|c){2,3}", `\|`, "[]-]", "[^]-a]", "[[.^.][.[.]]", "(((x)))", "((|)|(|))+"}
	for range 20000 {
		count[comesBack(t, drawnFrom(r, pieces, r.Intn(10)))]++
	}
	for range 3000 {
		count[comesBack(t, drawnFrom(r, pieces, r.Intn(250)))]++
	}
	if count[api.OK] < 10000 || count[api.ErrLimit] < 100 {
		t.Errorf("%v", count)
	}
}

// P10.4: a text of at most 1024 bytes whose tree Print refuses, since it writes it longer.
func TestLongerBack(t *testing.T) {
	for _, s := range []string{"[^a]", "[[:punct:]]", "[^[:alnum:]]", "[^[:print:]]", "[!-%'-)]"} {
		n, e := pattern.Parse(s)
		if e != api.OK {
			t.Fatalf("%q: error %d", s, e)
		}
		text, _ := pattern.Print(n)
		if comesBack(t, s) != api.OK {
			t.Fatalf("%q", s)
		}
		times := mostBytes / len(s)
		e = comesBack(t, repeated(s, times))
		if want := len(text)*times > mostBytes; want != (e == api.ErrLimit) {
			t.Errorf("%q %d times: error %d", s, times, e)
		}
	}
}

func repeated(s string, n int) string {
	text := ""
	for range n {
		text += s
	}
	return text
}

// P10.4: what Print tells, Parse reads as the same tree; over all small trees.
func TestSmallTrees(t *testing.T) {
	leaves := []api.Node{none(), set("a"), set(""), but(""), set("^"), set("]-"), begin(), end()}
	layer := leaves
	for range 2 {
		next := layer
		for _, a := range layer {
			for _, times := range [][2]int{{0, -1}, {1, -1}, {0, 1}, {0, 0}, {3, 7}, {2, -1}} {
				next = append(next, repeat(times[0], times[1], a))
			}
			for _, b := range leaves {
				next = append(next, row(a, b), row(b, a), choice(a, b), choice(b, a), row(b, a, b), choice(a, b, a))
			}
		}
		layer = next
	}
	for _, n := range layer {
		prints(t, n, printByWords(n))
	}
	if len(layer) < 10000 {
		t.Errorf("%d trees", len(layer))
	}
}
