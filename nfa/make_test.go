package nfa_test

import (
	"math/rand"
	"testing"

	"vouch/api"
	"vouch/pattern"
)

// P11.3: the chapter's examples.
func TestMakeExamples(t *testing.T) {
	a, b := set("a"), set("b")
	makes(t, none(), machine(0, done()))
	makes(t, a, machine(1, done(), stateOf("a", 0)))
	makes(t, row(a, b), machine(2, done(), stateOf("b", 0), stateOf("a", 1)))
	makes(t, choice(a, b, none()), machine(4, done(), stateOf("a", 0), stateOf("b", 0), fork(2, 0), fork(1, 3)))
	makes(t, repeat(0, -1, a), machine(1, done(), fork(2, 0), stateOf("a", 1)))
	makes(t, repeat(1, -1, a), machine(3, done(), fork(2, 0), stateOf("a", 1), stateOf("a", 1)))
	makes(t, repeat(1, 2, a), machine(3, done(), stateOf("a", 0), fork(1, 0), stateOf("a", 2)))
	makes(t, repeat(0, 2, a), machine(4, done(), stateOf("a", 0), fork(1, 0), stateOf("a", 2), fork(3, 0)))
	makes(t, repeat(0, 0, a), machine(0, done()))
	makes(t, repeat(5, 5, none()), machine(0, done()))
	makes(t, repeat(0, 2, none()), machine(2, done(), fork(0, 0), fork(1, 0)))
}

// P11.3: machines that were laid by hand.
func TestByHand(t *testing.T) {
	a, b, c := set("a"), set("b"), set("c")
	makes(t, begin(), machine(1, done(), atBegin(0)))
	makes(t, end(), machine(1, done(), atEnd(0)))
	makes(t, set(""), machine(1, done(), stateOf("", 0)))
	makes(t, row(begin(), a, end()), machine(3, done(), atEnd(0), stateOf("a", 1), atBegin(2)))
	makes(t, row(none(), a, none()), machine(1, done(), stateOf("a", 0)))
	makes(t, row(row(a, b), c), machine(3, done(), stateOf("c", 0), stateOf("b", 1), stateOf("a", 2)))
	makes(t, choice(none(), none()), machine(1, done(), fork(0, 0)))
	makes(t, choice(none(), a, none()), machine(3, done(), stateOf("a", 0), fork(1, 0), fork(0, 2)))
	makes(t, row(choice(a, b), c), machine(4, done(), stateOf("c", 0), stateOf("a", 1), stateOf("b", 1), fork(2, 3)))
	makes(t, row(a, choice(b, c)), machine(4, done(), stateOf("b", 0), stateOf("c", 0), fork(1, 2), stateOf("a", 3)))
	makes(t, choice(a, choice(b, c)), machine(5, done(), stateOf("a", 0), stateOf("b", 0), stateOf("c", 0), fork(2, 3), fork(1, 4)))
	makes(t, repeat(0, 1, a), machine(2, done(), stateOf("a", 0), fork(1, 0)))
	makes(t, repeat(1, 1, a), machine(1, done(), stateOf("a", 0)))
	makes(t, repeat(3, 3, a), machine(3, done(), stateOf("a", 0), stateOf("a", 1), stateOf("a", 2)))
	makes(t, repeat(0, -1, none()), machine(1, done(), fork(1, 0)))
	makes(t, repeat(255, -1, none()), machine(1, done(), fork(1, 0)))
	makes(t, repeat(1, 2, none()), machine(1, done(), fork(0, 0)))
	makes(t, repeat(0, 0, row(a, b)), machine(0, done()))
	makes(t, repeat(0, -1, row(a, b)), machine(1, done(), fork(3, 0), stateOf("b", 1), stateOf("a", 2)))
	makes(t, repeat(2, -1, row(a, b)), machine(7, done(), fork(3, 0), stateOf("b", 1), stateOf("a", 2), stateOf("b", 1), stateOf("a", 4), stateOf("b", 5), stateOf("a", 6)))
	makes(t, row(repeat(0, 2, a), b), machine(5, done(), stateOf("b", 0), stateOf("a", 1), fork(2, 1), stateOf("a", 3), fork(4, 1)))
	makes(t, repeat(0, 1, repeat(0, -1, a)), machine(3, done(), fork(2, 0), stateOf("a", 1), fork(1, 0)))
	makes(t, repeat(0, -1, repeat(0, 1, a)), machine(1, done(), fork(3, 0), stateOf("a", 1), fork(2, 1)))
	makes(t, repeat(2, 3, choice(a, none())), machine(7, done(), stateOf("a", 0), fork(1, 0), fork(2, 0), stateOf("a", 3), fork(4, 3), stateOf("a", 5), fork(6, 5)))
}

// P11.3: all small trees, against the chapter's words.
func TestSmallTrees(t *testing.T) {
	first := append(leaves(), over(leaves(), times())...)
	for _, a := range leaves() {
		for _, b := range leaves() {
			for _, c := range leaves() {
				first = append(first, row(a, b, c), choice(a, b, c))
			}
		}
	}
	for _, n := range first {
		holds(t, n)
	}
	for _, n := range over(first, times()) {
		holds(t, n)
	}
	few := append(leaves(), over([]api.Node{none(), set("a")}, [][2]int{{0, -1}, {1, 2}})...)
	for i, n := range over(over(few, [][2]int{{0, 2}, {2, -1}}), nil) {
		if i%29 == 0 {
			holds(t, n)
		}
	}
}

// P11.3: all numbers of a repetition, of parts that lay nothing, one state and more.
func TestAllTimes(t *testing.T) {
	for least := range 256 {
		for most := -1; most < 256; most++ {
			if most >= 0 && most < least || least > 20 && most > 20 && (least+most)%7 > 0 {
				continue
			}
			holds(t, repeat(least, most, none()))
			holds(t, row(begin(), repeat(least, most, set("a")), set("b")))
			if least%5 == 0 || most < 5 {
				holds(t, choice(repeat(least, most, choice(set("a"), none())), end()))
			}
		}
	}
}

// P11.3: drawn trees, against the chapter's words.
func TestDrawnTrees(t *testing.T) {
	r := rand.New(rand.NewSource(113))
	count := map[bool]int{}
	for range 20000 {
		if n := drawnTree(r, r.Intn(7)); nodes(n) <= 2048 {
			count[holds(t, n)]++
		}
	}
	if count[true] < 5000 || count[false] < 500 {
		t.Errorf("%v", count)
	}
}

// P11.3: drawn trees of great machines.
func TestGreatTrees(t *testing.T) {
	r := rand.New(rand.NewSource(114))
	count := 0
	for count < 300 {
		n := row(drawnTree(r, 8), drawnTree(r, 8), drawnTree(r, 8))
		lays := laysByWords(n)
		if nodes(n) > 2048 || !lays.IsInt64() || lays.Int64() < 500 || lays.Int64() > 6000 {
			continue
		}
		holds(t, n)
		count++
	}
}

// P11.3: the machines of patterns, against the chapter's words.
func TestPatterns(t *testing.T) {
	for _, s := range []string{"", "a", "^a$", "a|b|", "(ab)+c", "[[:digit:]]{3}", "^(a|[b-d])*z$", "((a?){2,3}|b*){0,4}", "a{0,255}", "(a{16}){255}", "(){255}{255}{255}", "(a{255}){0}", "(^|$)+"} {
		n, e := pattern.Parse(s)
		if e != api.OK || !holds(t, n) {
			t.Errorf("%q: error %d", s, e)
		}
	}
	n, e := pattern.Parse("a{255}{255}")
	if e != api.OK || holds(t, n) {
		t.Errorf("error %d", e)
	}
}

// P11.3: parts that lay nothing are not laid again and again: all these would not end in a lifetime.
func TestNothingAgain(t *testing.T) {
	nothing := none()
	for range 2000 {
		nothing = repeat(255, 255, nothing)
	}
	makes(t, nothing, machine(0, done()))
	makes(t, row(nothing, set("a")), machine(1, done(), stateOf("a", 0)))
	makes(t, repeat(255, -1, nothing), machine(1, done(), fork(1, 0)))
	makes(t, repeat(254, 255, nothing), machine(1, done(), fork(0, 0)))
	makes(t, repeat(0, 2, nothing), machine(2, done(), fork(0, 0), fork(1, 0)))
	rows := none()
	for range 400 {
		rows = repeat(255, 255, row(repeat(0, 0, set("a")), rows, none()))
	}
	makes(t, rows, machine(0, done()))
	makes(t, choice(rows, set("a")), machine(2, done(), stateOf("a", 0), fork(0, 1)))
}

// P11.3: as many nodes as may be, each of them laid as often as may be.
func TestOften(t *testing.T) {
	deep := set("a")
	for range 2040 {
		deep = repeat(1, 1, deep)
	}
	for what, n := range map[string]api.Node{
		"deep":                            exactly(deep, 16, 255),
		"wide":                            exactly(row(append(many(2030, none()), set("a"))...), 16, 255),
		"deep, of what lays nothing":      exactly(row(set("a"), exactlyNone(2030)), 16, 255),
		"deep, and left out":              exactly(repeat(0, 255, exactlyNone(2030)), 16),
		"wide, of what is repeated never": exactly(row(append(many(1010, repeat(0, 0, set("b"))), set("a"))...), 255, 16),
	} {
		sized(t, n, 4081)
		m := machine(4080, done())
		for i := range 4080 {
			m.States = append(m.States, stateOf("a", i))
		}
		if what == "deep, and left out" {
			m = makeByWords(exactly(repeat(0, 255, none()), 16))
		}
		makes(t, n, m)
	}
}

// exactlyNone is a tree of so many nodes that lays nothing.
func exactlyNone(nodes int) api.Node {
	n := none()
	for range nodes - 1 {
		n = repeat(255, 255, n)
	}
	return n
}
