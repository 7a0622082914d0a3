package nfa_test

import (
	"fmt"
	"math/big"
	"math/rand"
	"slices"
	"strings"
	"testing"

	"vouch/api"
	"vouch/nfa"
	"vouch/pattern"
)

const mostStates = 4096 // of a machine

// set is the node of the bytes of a text.
func set(s string) api.Node { return api.Node{Kind: 1, Set: bytesOf(s)} }

// bytesOf is the set of the bytes of a text.
func bytesOf(s string) api.Set {
	var b api.Set
	for i := range len(s) {
		b[s[i]/64] |= 1 << (s[i] % 64)
	}
	return b
}

func none() api.Node                { return api.Node{} }
func begin() api.Node               { return api.Node{Kind: 2} }
func end() api.Node                 { return api.Node{Kind: 3} }
func row(l ...api.Node) api.Node    { return api.Node{Kind: 4, Parts: l} }
func choice(l ...api.Node) api.Node { return api.Node{Kind: 5, Parts: l} }

func repeat(least, most int, n api.Node) api.Node {
	return api.Node{Kind: 6, Min: least, Max: most, Parts: []api.Node{n}}
}

// many is a list of the same tree, so many times.
func many(n int, tree api.Node) []api.Node { return slices.Repeat([]api.Node{tree}, n) }

// exactly is a tree that is repeated just so many times, for each of the numbers.
func exactly(n api.Node, times ...int) api.Node {
	for _, x := range times {
		n = repeat(x, x, n)
	}
	return n
}

// The states, as the chapter's examples show them.
func done() api.State                    { return api.State{Kind: 5} }
func stateOf(s string, to int) api.State { return api.State{Kind: 1, Set: bytesOf(s), Next: to} }
func fork(next, other int) api.State     { return api.State{Kind: 2, Next: next, Other: other} }
func atBegin(next int) api.State         { return api.State{Kind: 3, Next: next} }
func atEnd(next int) api.State           { return api.State{Kind: 4, Next: next} }

func machine(start int, states ...api.State) api.Nfa { return api.Nfa{Start: start, States: states} }

// equal: two machines are the same.
func equal(a, b api.Nfa) bool { return a.Start == b.Start && slices.Equal(a.States, b.States) }

// shown is a tree, shortly.
func shown(n api.Node) string {
	list := []string{}
	for _, part := range n.Parts {
		list = append(list, shown(part))
	}
	return fmt.Sprintf("%d %x %d %d (%s)", n.Kind, n.Set, n.Min, n.Max, strings.Join(list, ", "))
}

// machineShown is a machine, shortly.
func machineShown(m api.Nfa) string {
	list := []string{}
	for _, s := range m.States {
		list = append(list, fmt.Sprintf("%d %x %d %d", s.Kind, s.Set, s.Next, s.Other))
	}
	return fmt.Sprintf("Start %d: %s", m.Start, strings.Join(list, "; "))
}

// nodes is how many nodes a tree has that does not hold itself.
func nodes(n api.Node) int {
	count := 1
	for _, part := range n.Parts {
		count += nodes(part)
	}
	return count
}

// laysByWords is how many states laying a tree lays, whatever their number, by what the chapter's words say of each new state.
func laysByWords(n api.Node) *big.Int {
	sum := new(big.Int)
	for _, part := range n.Parts {
		sum.Add(sum, laysByWords(part))
	}
	number := func(n int) *big.Int { return big.NewInt(int64(n)) }
	switch n.Kind {
	case 1, 2, 3:
		return number(1)
	case 5:
		return sum.Add(sum, number(len(n.Parts)-1))
	case 6:
		splits, laid := 1, 1+n.Min
		if n.Max >= 0 {
			splits, laid = n.Max-n.Min, n.Max
		}
		return sum.Add(sum.Mul(sum, number(laid)), number(splits))
	}
	return sum
}

// layByWords is what the chapter's words say of laying a tree to a state, where the next place is free: the new states, and the state at which the tree begins.
func layByWords(n api.Node, to, free int) ([]api.State, int) {
	var list []api.State
	put := func(part api.Node, to int) int {
		more, start := layByWords(part, to, free+len(list))
		list = append(list, more...)
		return start
	}
	one := func(s api.State) int {
		list = append(list, s)
		return free + len(list) - 1
	}
	switch n.Kind {
	case 0:
		return nil, to
	case 1, 2, 3:
		return []api.State{{Kind: []int{0, 1, 3, 4}[n.Kind], Set: n.Set, Next: to}}, free
	case 4:
		t := to
		for i := len(n.Parts); i > 0; i-- {
			t = put(n.Parts[i-1], t)
		}
		return list, t
	case 5:
		starts := map[int]int{}
		for i, part := range n.Parts {
			starts[i] = put(part, to)
		}
		x := starts[len(n.Parts)-1]
		for i := len(n.Parts) - 2; i >= 0; i-- {
			x = one(fork(starts[i], x))
		}
		return list, x
	}
	p, t := n.Parts[0], to
	if n.Max == -1 {
		s := one(fork(0, t))
		start := put(p, s)
		list[s-free].Next = start
		t = s
	}
	for i := n.Min; i < n.Max; i++ {
		t = one(fork(put(p, t), to))
	}
	for i := 0; i < n.Min && laysByWords(p).Sign() > 0; i++ {
		t = put(p, t)
	}
	return list, t
}

// makeByWords is the machine of a tree that may be, and is not too great.
func makeByWords(n api.Node) api.Nfa {
	states, start := layByWords(n, 0, 1)
	return api.Nfa{Start: start, States: append([]api.State{done()}, states...)}
}

// makes: Make tells just this machine, and Size how many states it has; it may be, and the state 0 is its one StateDone.
func makes(t *testing.T, n api.Node, want api.Nfa) {
	t.Helper()
	m, e := nfa.Make(n)
	if e != api.OK || !equal(m, want) {
		t.Fatalf("Make(%.400s): %.400s, error %d, want %.400s", shown(n), machineShown(m), e, machineShown(want))
	}
	sized(t, n, len(want.States))
	if e := nfa.Check(m); e != api.OK {
		t.Fatalf("Check of the machine of %.400s: error %d", shown(n), e)
	}
	for i, s := range m.States {
		if (s.Kind == 5) != (i == 0) {
			t.Fatalf("Make(%.400s): the state %d is of kind %d", shown(n), i, s.Kind)
		}
	}
}

// sized: Size tells just this number.
func sized(t *testing.T, n api.Node, want int) {
	t.Helper()
	if size, e := nfa.Size(n); e != api.OK || size != want {
		t.Fatalf("Size(%.400s): %d, error %d, want %d", shown(n), size, e, want)
	}
}

// refused: Size and Make answer this error, and nothing beside it.
func refused(t *testing.T, n api.Node, want api.Errno) {
	t.Helper()
	if size, e := nfa.Size(n); size != 0 || e != want {
		t.Fatalf("Size: %d, error %d, want %d", size, e, want)
	}
	if m, e := nfa.Make(n); m.States != nil || m.Start != 0 || e != want {
		t.Fatalf("Make: %.400s, error %d, want %d", machineShown(m), e, want)
	}
}

// holds holds a tree that may be against the chapter's words, and tells whether its machine is not too great.
func holds(t *testing.T, n api.Node) bool {
	t.Helper()
	if e := pattern.Check(n); e != api.OK {
		t.Fatalf("%.400s may not be: error %d", shown(n), e)
	}
	if laysByWords(n).Cmp(big.NewInt(mostStates-1)) > 0 {
		refused(t, n, 3)
		return false
	}
	makes(t, n, makeByWords(n))
	return true
}

// leaves are nodes that have no parts.
func leaves() []api.Node { return []api.Node{none(), set("a"), begin(), end()} }

// times are numbers of a repetition.
func times() [][2]int {
	return [][2]int{{0, -1}, {1, -1}, {2, -1}, {3, -1}, {0, 0}, {0, 1}, {0, 2}, {0, 3}, {1, 1}, {1, 2}, {1, 3}, {2, 2}, {2, 4}, {3, 3}}
}

// over are the trees whose parts are of these, with all numbers of a repetition of these.
func over(parts []api.Node, times [][2]int) []api.Node {
	var list []api.Node
	for _, a := range parts {
		for _, x := range times {
			list = append(list, repeat(x[0], x[1], a))
		}
		for _, b := range parts {
			list = append(list, row(a, b), choice(a, b))
		}
	}
	return list
}

// drawnTree is a tree that may be, with at most so many levels.
func drawnTree(r *rand.Rand, levels int) api.Node {
	if levels == 0 || r.Intn(4) == 0 {
		return append(leaves(), set("bc"), set(""))[r.Intn(6)]
	}
	kind := 4 + r.Intn(3)
	if kind == 6 {
		x := times()[r.Intn(len(times()))]
		if r.Intn(16) == 0 {
			x = [2]int{r.Intn(256), -1}
		}
		if r.Intn(16) == 0 {
			least := r.Intn(256)
			x = [2]int{least, least + r.Intn(256-least)}
		}
		return repeat(x[0], x[1], drawnTree(r, levels-1))
	}
	n := api.Node{Kind: kind}
	for range 2 + r.Intn(3) {
		n.Parts = append(n.Parts, drawnTree(r, levels-1))
	}
	return n
}

// faulty are trees that may not be.
func faulty() map[string]api.Node {
	a := set("a")
	return map[string]api.Node{
		"a row of nothing": row(), "a row of one": row(a), "a choice of nothing": choice(), "a choice of one": choice(a),
		"a repeat of nothing": {Kind: 6}, "a repeat of two": {Kind: 6, Parts: []api.Node{a, a}}, "a repeat of nothing, 5 times": {Kind: 6, Min: 5, Max: 5},
		"kind 7": {Kind: 7}, "kind -1": {Kind: -1}, "kind 7 with a part": {Kind: 7, Parts: []api.Node{a}}, "kind 2^32": {Kind: 1 << 32},
		"none with a part": {Parts: []api.Node{a}}, "a set with a part": {Kind: 1, Parts: []api.Node{a}}, "an end with a set": {Kind: 3, Set: bytesOf("a")}, "a row with a number": {Kind: 4, Max: -1, Parts: []api.Node{a, a}},
		"3 to 2": repeat(3, 2, a), "0 to -2": repeat(0, -2, a), "-1 to -1": repeat(-1, -1, a), "-1 to 1": repeat(-1, 1, a), "0 to 256": repeat(0, 256, a), "256 and more": repeat(256, -1, a), "256 to 256": repeat(256, 256, a),
	}
}
