package pattern_test

import (
	"math/rand"
	"reflect"
	"slices"
	"strings"
	"testing"
	"unsafe"

	"vouch/api"
	"vouch/pattern"
)

// mark is a node that stands in the memory behind a list.
func mark() api.Node { return api.Node{Kind: 99, Min: 98, Max: 97, Set: api.Set{96, 95, 94, 93}} }

// roomy is a tree like n in memory of its own, with marked memory behind each list.
func roomy(n api.Node) api.Node {
	parts := n.Parts
	n.Parts = slices.Repeat([]api.Node{mark()}, len(parts)+2)[:len(parts)]
	for i := range parts {
		n.Parts[i] = roomy(parts[i])
	}
	return n
}

// untouched: a tree that roomy made is as it was, what lies behind its lists included.
func untouched(got, want api.Node) bool {
	if !same(got, want) {
		return false
	}
	for i, part := range got.Parts[:len(got.Parts)+2] {
		if i >= len(got.Parts) && !reflect.DeepEqual(part, mark()) || i < len(got.Parts) && !untouched(part, want.Parts[i]) {
			return false
		}
	}
	return true
}

// scribble writes over all memory of a tree, what lies behind its lists included.
func scribble(n api.Node) {
	for _, part := range n.Parts {
		scribble(part)
	}
	for i := range n.Parts[:cap(n.Parts)] {
		n.Parts[:cap(n.Parts)][i] = mark()
	}
}

// texts are patterns that Parse reads.
func texts() []string {
	return []string{"", "a", "ab", "abc", "abcde", "a|b", "a|", "(ab)c", "a*", "a{2}{3,}", "((a|b)*c|d(ef)?)+", "a()b|(|)|^$", "[[:digit:]x]", "a(b(c(d(e|f)g)h)i)j", strings.Repeat("ab|", 300), strings.Repeat("a", 1024)}
}

// A tree that is handed in is not changed, what lies behind its lists included; be it refused or not.
func TestTreeIn(t *testing.T) {
	r := rand.New(rand.NewSource(105))
	list := []api.Node{row(many(2000, set("*"))...), row(many(3000, none())...), chainOf(1500)}
	for _, n := range faulty() {
		list = append(list, n, row(n, begin(), n))
	}
	for range 2000 {
		list = append(list, drawnTree(r, r.Intn(4)))
	}
	for _, n := range list {
		given := roomy(n)
		e := pattern.Check(given)
		text, e1 := pattern.Print(given)
		if !untouched(given, n) {
			t.Fatalf("%.300s: what is handed in is changed", shown(n))
		}
		if e2 := pattern.Check(n); e != e2 {
			t.Fatalf("%.300s: errors %d and %d", shown(n), e, e2)
		}
		scribble(given)
		if text2, e2 := pattern.Print(n); text != text2 || e1 != e2 {
			t.Fatalf("%.300s: what is handed in is kept: %q, error %d", shown(n), text, e1)
		}
	}
}

// A text that is handed in is neither changed nor kept.
func TestTextIn(t *testing.T) {
	for _, s := range append(texts(), "(", ")", "*", "a{", `\`, "[b-a]", "[[:foo:]]", "[", strings.Repeat("a", 1025)) {
		room := append([]byte(s), strings.Repeat("0", 64)...)
		n, e := pattern.Parse(unsafe.String(unsafe.SliceData(room), len(s)))
		if string(room) != s+strings.Repeat("0", 64) {
			t.Fatalf("%.60q: what is handed in is changed", s)
		}
		for i := range room {
			room[i] ^= 0x5A
		}
		if want, e1 := parseByWords(s); e != e1 || !same(n, want) {
			t.Fatalf("%.60q: what is handed in is kept: %s, error %d", s, shown(n), e)
		}
	}
}

// No two answers share memory, nor two lists of one answer.
func TestApart(t *testing.T) {
	for _, s := range texts() {
		first, e := pattern.Parse(s)
		second, e1 := pattern.Parse(s)
		want, _ := parseByWords(s)
		if e != api.OK || e1 != api.OK || !same(first, want) {
			t.Fatalf("%.60q: errors %d and %d", s, e, e1)
		}
		scribble(first)
		if !same(second, want) {
			t.Fatalf("%.60q: two answers share memory", s)
		}
		reads(t, s, want)
		lists := listsOf(&second, nil)
		for i, l := range lists {
			kept := slices.Clone((*l)[:cap(*l)])
			for j := range kept {
				(*l)[:cap(*l)][j].Max = 1000 + i
			}
			for k, other := range lists {
				for _, x := range (*other)[:cap(*other)] {
					if k != i && x.Max == 1000+i {
						t.Fatalf("%.60q: two lists share memory", s)
					}
				}
			}
			copy((*l)[:cap(*l)], kept)
		}
	}
}

// listsOf is all lists of a tree that are not empty.
func listsOf(n *api.Node, list []*[]api.Node) []*[]api.Node {
	if len(n.Parts) > 0 {
		list = append(list, &n.Parts)
	}
	for i := range n.Parts {
		list = listsOf(&n.Parts[i], list)
	}
	return list
}

// What Print tells is no memory of another answer's (but of one byte, for which the language keeps texts of its own).
func TestPrintsApart(t *testing.T) {
	for _, s := range texts() {
		n, _ := pattern.Parse(s)
		first, e := pattern.Print(n)
		second, e1 := pattern.Print(n)
		if e != api.OK || e1 != api.OK || first != second {
			t.Fatalf("%.60q: %q and %q, errors %d and %d", s, first, second, e, e1)
		}
		if len(first) > 1 && unsafe.StringData(first) == unsafe.StringData(second) {
			t.Fatalf("%.60q: two texts share memory", s)
		}
	}
}

// What is refused answers nothing beside the error.
func TestRefusedIsNothing(t *testing.T) {
	for _, s := range []string{"ab(", "a)", "ab*{", "(a|b)c{3,2}", "abc*|*", `a|b\`, "(ab)[", "ab[b-a]", "a|[[:x:]]", strings.Repeat("ab|", 400), strings.Repeat("(a", 65), "a{0,3}{300}"} {
		if n, e := pattern.Parse(s); e == api.OK || !reflect.DeepEqual(n, api.Node{}) {
			t.Errorf("Parse(%.60q): %s, error %d", s, shown(n), e)
		}
	}
	for _, n := range []api.Node{row(set("a")), row(many(1025, set("a"))...), row(many(5000, set("a"))...)} {
		if s, e := pattern.Print(n); e == api.OK || s != "" {
			t.Errorf("Print: %.60q, error %d", s, e)
		}
	}
}
