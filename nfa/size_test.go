package nfa_test

import (
	"testing"

	"vouch/api"
	"vouch/nfa"
	"vouch/pattern"
)

// P11.2: the chapter's examples.
func TestSizeExamples(t *testing.T) {
	sized(t, exactly(set("a"), 16, 255), 4081)
	refused(t, exactly(set("a"), 17, 255), 3)
}

// P11.2: how many states each kind lays.
func TestSizes(t *testing.T) {
	a := set("a")
	for _, x := range []struct {
		n    api.Node
		size int
	}{
		{none(), 1}, {a, 2}, {set(""), 2}, {begin(), 2}, {end(), 2},
		{row(a, a), 3}, {row(none(), none()), 1}, {row(a, none(), begin(), end()), 4}, {row(many(2047, a)...), 2048}, {row(many(2047, none())...), 1},
		{choice(a, a), 4}, {choice(none(), none()), 2}, {choice(a, none(), begin(), end()), 7}, {choice(many(2047, a)...), 4094}, {choice(many(2047, none())...), 2047},
		{repeat(0, -1, a), 3}, {repeat(1, -1, a), 4}, {repeat(255, -1, a), 258}, {repeat(0, -1, none()), 2}, {repeat(255, -1, none()), 2},
		{repeat(0, 0, a), 1}, {repeat(0, 1, a), 3}, {repeat(1, 1, a), 2}, {repeat(0, 255, a), 511}, {repeat(255, 255, a), 256}, {repeat(254, 255, a), 257}, {repeat(3, 10, a), 18},
		{repeat(0, 255, none()), 256}, {repeat(255, 255, none()), 1}, {repeat(254, 255, none()), 2},
		{repeat(2, 5, choice(a, begin(), none())), 24}, {repeat(2, -1, choice(a, begin(), none())), 14},
	} {
		sized(t, x.n, x.size)
		holds(t, x.n)
	}
}

// P11.2: 4096 states, and no more, of whatever kind.
func TestMostStates(t *testing.T) {
	a := set("a")
	for what, x := range map[string]struct {
		n    api.Node
		more int // how many states one more of a has to be put to n for 4096
	}{
		"255 times 16":           {exactly(a, 16, 255), 15},
		"16 times 255":           {exactly(a, 255, 16), 15},
		"up to 255, of nothing":  {exactly(repeat(0, 255, none()), 16), 15},
		"up to 255":              {exactly(repeat(0, 255, a), 8), 15},
		"3 and more":             {repeat(3, -1, repeat(254, 255, exactly(a, 4))), 4095 - 4*(254*4+5) - 1},
		"a choice":               {exactly(choice(many(128, a)...), 16), 15},
		"a wide choice":          {choice(many(600, exactly(a, 5))...), 4095 - 3599},
		"a choice of great ones": {choice(exactly(a, 255, 8), exactly(a, 255, 8)), 14},
		"0 to 1 of a great one":  {repeat(0, 1, exactly(a, 255, 16)), 14},
		"great ones, 0 times":    {row(repeat(0, 0, exactly(a, 255, 255, 255)), exactly(a, 255, 16)), 15},
	} {
		for more, list := range map[int][]api.Node{x.more: many(x.more, a), x.more + 1: many(x.more+1, a)} {
			for place, n := range map[string]api.Node{"ahead": row(append([]api.Node{x.n}, list...)...), "behind": row(append(list, x.n)...)} {
				if got := holds(t, n); got != (more == x.more) {
					t.Errorf("%s, with %d more %s: %v", what, more, place, got)
				}
				if more == x.more {
					sized(t, n, 4096)
					refused(t, repeat(0, 1, n), 3)
					refused(t, repeat(0, -1, n), 3)
					refused(t, repeat(2, 2, n), 3)
					refused(t, choice(none(), n), 3)
					sized(t, repeat(1, 1, n), 4096)
					sized(t, repeat(0, 0, n), 1)
				}
			}
		}
	}
}

// P11.2: numbers of states that are past every number.
func TestHuge(t *testing.T) {
	for _, n := range []api.Node{set("a"), end(), choice(none(), none()), repeat(0, 1, none()), repeat(0, -1, none())} {
		for range 2 {
			n = row(n, none())
		}
		deep := n
		for level := range 600 {
			deep = []api.Node{repeat(255, 255, deep), repeat(0, 255, deep), repeat(255, -1, deep)}[level%3]
			if level > 1 {
				refused(t, deep, 3)
				refused(t, row(many(3, deep)...), 3)
				refused(t, choice(none(), deep), 3)
				refused(t, row(repeat(0, 0, deep), deep), 3)
				sized(t, repeat(0, 0, deep), 1)
				sized(t, row(set("b"), repeat(0, 0, deep), end()), 3)
			}
		}
	}
	refused(t, row(many(1000, repeat(255, 255, set("a")))...), 3)
	refused(t, choice(many(1000, repeat(255, -1, set("a")))...), 3)
	refused(t, repeat(255, 255, row(many(1000, repeat(255, 255, set("a")))...)), 3)
	wide := exactly(set("a"), 255, 255)
	refused(t, row(many(682, wide)...), 3)
	// Doubled again and again, the number of states would come just to 2^32, 2^63 and 2^64.
	double := set("a")
	for level := 1; level < 2000; level++ {
		double = repeat(2, 2, double)
		if level < 12 {
			sized(t, double, 1<<level+1)
		} else {
			refused(t, double, 3)
		}
	}
	sixteen := set("a")
	for level := 1; level < 700; level++ {
		sixteen = repeat(16, 16, sixteen)
		if level > 2 {
			refused(t, sixteen, 3)
		}
	}
}

// P11.2: what pattern.Check refuses comes first.
func TestFaulty(t *testing.T) {
	a := set("a")
	great := exactly(a, 17, 255)
	for what, n := range faulty() {
		for _, outer := range []api.Node{n, row(n, a), row(a, n), choice(a, n, a), repeat(2, 3, n), repeat(0, 0, n), row(great, n), choice(n, great), exactly(n, 255, 255, 255), repeat(0, 0, row(great, n))} {
			if pattern.Check(outer) != 107 {
				t.Fatalf("%s may be", what)
			}
			refused(t, outer, 107)
		}
		refused(t, row(n, row(many(2048, none())...)), 3)
	}
}

// P11.2: more nodes than may be, and trees without an end.
func TestNodes(t *testing.T) {
	sized(t, row(many(2047, none())...), 1)
	refused(t, row(many(2048, none())...), 3)
	refused(t, repeat(0, 0, row(many(2047, none())...)), 3)
	self := make([]api.Node, 2)
	self[0] = api.Node{Kind: 4, Parts: self}
	refused(t, row(self...), 3)
	self[0], self[1] = none(), api.Node{Kind: 5, Parts: self}
	refused(t, self[1], 3)
	one := make([]api.Node, 1)
	one[0] = api.Node{Kind: 6, Parts: one}
	refused(t, one[0], 3)
	doubled := none()
	for range 60 {
		doubled = row(doubled, doubled)
	}
	refused(t, doubled, 3)
	ten := row(set("a"), set("b"))
	for range 9 {
		ten = row(ten, ten)
	}
	if holds(t, ten); nodes(ten) != 2047 {
		t.Errorf("%d nodes", nodes(ten))
	}
}

// Size asks of each node once alone: it ends as soon where nodes are many, and deep in one another.
func TestSizeEnds(t *testing.T) {
	for _, x := range [][2]int{{1, 1}, {0, 0}, {255, 255}, {0, 255}, {0, -1}, {255, -1}} {
		deep, none := set("a"), none()
		for range 2047 {
			deep, none = repeat(x[0], x[1], deep), repeat(x[0], x[1], none)
		}
		for range 50 {
			nfa.Size(deep)
			nfa.Size(none)
		}
	}
}
