package pattern_test

import (
	"math"
	"testing"

	"vouch/api"
	"vouch/pattern"
)

// leaves are nodes that have no parts, and may be.
func leaves() []api.Node { return []api.Node{none(), set(""), set("a"), but(""), begin(), end()} }

// faulty are trees that may not be, each for one reason.
func faulty() map[string]api.Node {
	a := set("a")
	return map[string]api.Node{
		"a row of nothing": row(), "a row of one": row(a), "a choice of nothing": choice(), "a choice of one": choice(a),
		"a repeat of nothing": {Kind: 6}, "a repeat of two": {Kind: 6, Parts: []api.Node{a, a}}, "a repeat of two, endless": {Kind: 6, Max: -1, Parts: []api.Node{a, a}},
		"kind 7": {Kind: 7}, "kind -1 with a part": {Kind: -1, Parts: []api.Node{a}}, "kind 8 with parts": {Kind: 8, Parts: []api.Node{a, a}},
		"none with a part": {Kind: 0, Parts: []api.Node{a}}, "a set with a part": {Kind: 1, Parts: []api.Node{a}}, "begin with a part": {Kind: 2, Parts: []api.Node{a}}, "end with parts": {Kind: 3, Parts: []api.Node{a, a}},
		"3 to 2": repeat(3, 2, a), "1 to 0": repeat(1, 0, a), "255 to 254": repeat(255, 254, a), "0 to -2": repeat(0, -2, a), "0 to least": repeat(0, math.MinInt, a), "-1 to -1": repeat(-1, -1, a), "-1 to 0": repeat(-1, 0, a), "-1 to 1": repeat(-1, 1, a), "-2 to -1": repeat(-2, -1, a), "least": repeat(math.MinInt, -1, a),
		"0 to 256": repeat(0, 256, a), "256 to 256": repeat(256, 256, a), "256 and more": repeat(256, -1, a), "255 to 256": repeat(255, 256, a), "greatest": repeat(0, math.MaxInt, a), "greatest and more": repeat(math.MaxInt, -1, a), "2^32": repeat(1<<32, 1<<32, a), "2^32 and more": repeat(1<<32, -1, a), "0 to 2^32": repeat(0, 1<<32, a), "0 to 2^32-1": repeat(0, 1<<32-1, a),
	}
}

// P10.1: what may be.
func TestMayBe(t *testing.T) {
	list := leaves()
	for _, leaf := range leaves() {
		list = append(list, row(leaf, leaf), choice(leaf, leaf), row(leaf, begin(), leaf), choice(leaf, end(), none(), leaf))
		for _, times := range [][2]int{{0, -1}, {1, -1}, {0, 1}, {0, 0}, {1, 1}, {255, 255}, {0, 255}, {255, -1}, {254, 255}, {2, 3}} {
			list = append(list, repeat(times[0], times[1], leaf))
		}
	}
	for _, n := range list {
		for _, outer := range []api.Node{n, row(n, n), choice(n, none()), repeat(0, -1, n), row(begin(), choice(repeat(2, 3, n), n), end())} {
			if e := pattern.Check(outer); e != api.OK {
				t.Errorf("%s: error %d", shown(outer), e)
			}
		}
	}
}

// P10.1: what may not be, at the top and deep inside, at each place.
func TestMayNotBe(t *testing.T) {
	a := set("a")
	for what, n := range faulty() {
		isRefused(t, what, n, api.ErrNode)
		for _, outer := range []api.Node{row(n, a), row(a, n), row(a, n, a), choice(n, a), choice(a, a, n), repeat(0, -1, n), repeat(2, 2, row(a, choice(a, repeat(0, 1, n))))} {
			isRefused(t, what+" inside", outer, api.ErrNode)
		}
	}
	for _, kind := range []int{-1, -2, 7, 8, 255, 256, 257, 262, 1 << 32, 1<<32 + 1, math.MaxInt, math.MinInt} {
		for parts := range 4 {
			isRefused(t, "another kind", api.Node{Kind: kind, Parts: many(parts, a)}, api.ErrNode)
			isRefused(t, "another kind inside", row(a, api.Node{Kind: kind, Parts: many(parts, a)}), api.ErrNode)
		}
	}
}

// P10.1: how many parts each kind has.
func TestParts(t *testing.T) {
	for kind := range 7 {
		for parts := range 6 {
			n := api.Node{Kind: kind, Parts: many(parts, begin())}
			may := parts == 0 && kind < 4 || parts > 1 && (kind == 4 || kind == 5) || parts == 1 && kind == 6
			if e := pattern.Check(n); may != (e == api.OK) || !may && e != api.ErrNode {
				t.Errorf("kind %d with %d parts: error %d", kind, parts, e)
			}
		}
	}
	for kind := range 4 {
		if e := pattern.Check(api.Node{Kind: kind, Parts: []api.Node{}}); e != api.OK {
			t.Errorf("kind %d with an empty list: error %d", kind, e)
		}
	}
}

// P10.1: what is not named for a kind is 0.
func TestNotNamed(t *testing.T) {
	for _, n := range []api.Node{none(), set("a"), begin(), end(), row(begin(), end()), choice(begin(), end()), repeat(0, 1, begin())} {
		changed := func(change func(n *api.Node)) api.Node {
			change(&n)
			return n
		}
		list := []api.Node{}
		if n.Kind != 6 {
			for _, x := range []int{1, -1, 255, math.MaxInt, math.MinInt, 1 << 32} {
				list = append(list, changed(func(n *api.Node) { n.Min, n.Max = x, 0 }), changed(func(n *api.Node) { n.Min, n.Max = 0, x }), changed(func(n *api.Node) { n.Min, n.Max = x, x }))
			}
			n.Min, n.Max = 0, 0
		}
		for c := range 256 {
			if n.Kind != 1 {
				list = append(list, changed(func(n *api.Node) { n.Set = set(string([]byte{byte(c)})).Set }))
			}
		}
		for _, wrong := range list {
			isRefused(t, "what is not named", wrong, api.ErrNode)
			isRefused(t, "what is not named, inside", choice(row(begin(), wrong), end()), api.ErrNode)
		}
	}
}

// P10.1: every pair of numbers of a repetition.
func TestTimes(t *testing.T) {
	for least := -3; least < 260; least++ {
		for most := -3; most < 260; most++ {
			may := least >= 0 && least <= 255 && (most == -1 || most >= least && most <= 255)
			if e := pattern.Check(repeat(least, most, none())); may != (e == api.OK) || !may && e != api.ErrNode {
				t.Fatalf("%d to %d: error %d", least, most, e)
			}
		}
	}
}

// chainOf is a tree of n nodes, each the part of another.
func chainOf(n int) api.Node {
	tree := none()
	for range n - 1 {
		tree = repeat(0, -1, tree)
	}
	return tree
}

// spread is a tree of n nodes in rows of rows, n being odd.
func spread(n int) api.Node {
	if n == 1 {
		return none()
	}
	left := (n - 1) / 2
	if left%2 == 0 {
		left++
	}
	return row(spread(left), spread(n-1-left))
}

// P10.1: 2048 nodes, and no more, however they stand.
func TestNodes(t *testing.T) {
	for n, e := range map[int]api.Errno{2047: api.OK, 2048: api.OK, 2049: api.ErrLimit, 2050: api.ErrLimit, 4097: api.ErrLimit, 100000: api.ErrLimit} {
		for what, tree := range map[string]api.Node{"wide": row(many(n-1, none())...), "deep": chainOf(n), "a wide one behind": row(begin(), choice(many(n-3, none())...)), "a wide one ahead": row(choice(many(n-3, none())...), begin()), "two": choice(row(many(1000, none())...), row(many(n-1003, end())...))} {
			if got := pattern.Check(tree); nodes(tree) != n || got != e {
				t.Errorf("%s, %d nodes: error %d, want %d", what, nodes(tree), got, e)
			}
		}
		if tree := spread(n | 1); pattern.Check(tree) != map[bool]api.Errno{true: api.OK, false: api.ErrLimit}[n|1 <= mostNodes] {
			t.Errorf("%d nodes in rows of rows: error %d", nodes(tree), pattern.Check(tree))
		}
	}
}

// P10.1: the limit is asked ahead of whether the tree may be; all nodes count, also those that may not be there.
func TestLimitFirst(t *testing.T) {
	for what, n := range faulty() {
		isRefused(t, what+", ahead of too many", row(n, row(many(2048, none())...)), api.ErrLimit)
		isRefused(t, what+", behind too many", row(row(many(2048, none())...), n), api.ErrLimit)
	}
	for kind := -1; kind < 8; kind++ {
		e := api.ErrNode
		if kind == 4 || kind == 5 {
			e = api.OK
		}
		n := api.Node{Kind: kind, Parts: many(2047, none())}
		if got := pattern.Check(n); got != e {
			t.Errorf("kind %d with 2047 parts: error %d, want %d", kind, got, e)
		}
		isRefused(t, "2048 parts", api.Node{Kind: kind, Parts: many(2048, none())}, api.ErrLimit)
		isRefused(t, "2047 parts that may not be, and one in one", row(api.Node{Kind: kind, Parts: many(2046, api.Node{Kind: 9})}, none()), api.ErrLimit)
	}
}

// P10.1: trees without an end, and such as unfold to very many nodes.
func TestEndless(t *testing.T) {
	self := make([]api.Node, 2)
	self[0] = api.Node{Kind: 4, Parts: self}
	isRefused(t, "a row that holds itself first", row(self...), api.ErrLimit)
	self[0], self[1] = none(), api.Node{Kind: 5, Parts: self}
	isRefused(t, "a choice that holds itself last", self[1], api.ErrLimit)
	self[0] = self[1]
	isRefused(t, "one that holds itself twice", self[0], api.ErrLimit)
	one := make([]api.Node, 1)
	one[0] = api.Node{Kind: 6, Max: -1, Parts: one}
	isRefused(t, "a repeat that holds itself", one[0], api.ErrLimit)
	one[0].Kind = -5
	isRefused(t, "one that may not be and holds itself", one[0], api.ErrLimit)
	doubled := none()
	for range 60 {
		doubled = row(doubled, doubled)
	}
	isRefused(t, "2^61 nodes", doubled, api.ErrLimit)
	wide := row(many(1<<20, row(many(1<<16, none())...))...)
	isRefused(t, "2^36 nodes", wide, api.ErrLimit)
	ten := row(none(), none())
	for range 9 {
		ten = row(ten, ten)
	}
	if e := pattern.Check(ten); e != api.OK || nodes(ten) != 2047 {
		t.Errorf("2047 nodes that share parts: error %d", e)
	}
}
