package nfa_test

import (
	"math/rand"
	"testing"

	"vouch/api"
	"vouch/nfa"
)

// isPlain: no repetition in a tree has a Min or Max above 1, or the Min 1 and the Max -1.
func isPlain(n api.Node) bool {
	if n.Kind == 6 && (n.Min > 1 || n.Max > 1 || n.Min == 1 && n.Max == -1) {
		return false
	}
	for _, part := range n.Parts {
		if !isPlain(part) {
			return false
		}
	}
	return true
}

// isSmall: a plain tree has a machine, of at most twice as many states as the tree has nodes.
func isSmall(t *testing.T, n api.Node) {
	t.Helper()
	m, e := nfa.Make(n)
	if e != api.OK || !isPlain(n) || len(m.States) > 2*nodes(n) {
		t.Fatalf("%.400s: %d states of %d nodes, error %d", shown(n), len(m.States), nodes(n), e)
	}
}

// P11.4: plain trees have small machines.
func TestSmallMachines(t *testing.T) {
	plain := [][2]int{{0, -1}, {0, 0}, {0, 1}, {1, 1}}
	first := append(leaves(), over(leaves(), plain)...)
	for _, n := range first {
		isSmall(t, n)
	}
	for _, n := range over(first, plain) {
		isSmall(t, n)
	}
	r := rand.New(rand.NewSource(115))
	count := 0
	for range 20000 {
		if n := drawnTree(r, r.Intn(5)); isPlain(n) && nodes(n) <= 2048 {
			isSmall(t, n)
			count++
		}
	}
	if count < 2000 {
		t.Errorf("%d plain trees", count)
	}
}

// P11.4: 2048 nodes of a plain tree never are too great.
func TestGreatestPlain(t *testing.T) {
	a := set("a")
	star, perhaps := a, a
	for range 2047 {
		star, perhaps = repeat(0, -1, star), repeat(0, 1, perhaps)
	}
	for _, n := range []api.Node{star, perhaps, row(many(2047, a)...), choice(many(2047, a)...), row(append(many(1023, repeat(0, -1, a)), none())...), choice(append(many(1023, repeat(0, 1, a)), a)...)} {
		if isSmall(t, n); nodes(n) != 2048 {
			t.Errorf("%d nodes", nodes(n))
		}
	}
}
