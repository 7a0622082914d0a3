package nfa_test

import (
	"math/rand"
	"reflect"
	"slices"
	"testing"

	"vouch/api"
	"vouch/nfa"
)

// mark is a node that stands in the memory behind a list.
func mark() api.Node { return api.Node{Kind: 99, Min: 98, Max: 97, Set: api.Set{96, 95, 94, 93}} }

// stateMark is a state that stands there.
func stateMark() api.State {
	return api.State{Kind: 92, Next: 91, Other: 90, Set: api.Set{89, 88, 87, 86}}
}

// roomy is a tree like n in memory of its own, with marked memory behind each list.
func roomy(n api.Node) api.Node {
	parts := n.Parts
	n.Parts = slices.Repeat([]api.Node{mark()}, len(parts)+2)[:len(parts)]
	for i := range parts {
		n.Parts[i] = roomy(parts[i])
	}
	return n
}

// untouched: a tree that roomy made is as it was, what lies behind its lists included.
func untouched(got, want api.Node) bool {
	if got.Kind != want.Kind || got.Set != want.Set || got.Min != want.Min || got.Max != want.Max || len(got.Parts) != len(want.Parts) {
		return false
	}
	for i, part := range got.Parts[:len(got.Parts)+2] {
		if i >= len(got.Parts) && !reflect.DeepEqual(part, mark()) || i < len(got.Parts) && !untouched(part, want.Parts[i]) {
			return false
		}
	}
	return true
}

// scribble writes over all memory of a tree, what lies behind its lists included.
func scribble(n api.Node) {
	for _, part := range n.Parts {
		scribble(part)
	}
	for i := range n.Parts[:cap(n.Parts)] {
		n.Parts[:cap(n.Parts)][i] = mark()
	}
}

// A tree that is handed in is neither changed, what lies behind its lists included, nor kept; be it refused or not.
func TestTreeIn(t *testing.T) {
	r := rand.New(rand.NewSource(116))
	list := []api.Node{row(many(2000, set("*"))...), row(many(3000, none())...), exactly(set("a"), 255, 255), exactly(set("a"), 255, 16)}
	for _, n := range faulty() {
		list = append(list, n, row(n, begin(), n))
	}
	for range 2000 {
		list = append(list, drawnTree(r, r.Intn(5)))
	}
	for _, n := range list {
		given := roomy(n)
		size, e := nfa.Size(given)
		m, e1 := nfa.Make(given)
		if !untouched(given, n) {
			t.Fatalf("%.300s: what is handed in is changed", shown(n))
		}
		kept := api.Nfa{Start: m.Start, States: slices.Clone(m.States)}
		scribble(given)
		if !equal(m, kept) {
			t.Fatalf("%.300s: the answer shares memory with what is handed in", shown(n))
		}
		size2, e2 := nfa.Size(n)
		m2, e3 := nfa.Make(n)
		if size != size2 || e != e2 || e1 != e3 || e != e1 || !equal(m, m2) {
			t.Fatalf("%.300s: what is handed in is kept: errors %d, %d, %d and %d", shown(n), e, e1, e2, e3)
		}
	}
}

// A machine that is handed in is not changed, what lies behind its list included; be it refused or not.
func TestMachineIn(t *testing.T) {
	list := []api.Nfa{{}, machine(0, done()), machine(1, done()), machine(1, fork(0, 1), atEnd(0)), machine(0, fork(0, 2), api.State{}), machine(-1, stateOf("a", -1)), {States: slices.Repeat([]api.State{atBegin(4095)}, 4096)}, {States: slices.Repeat([]api.State{atBegin(0)}, 5000)}}
	for _, m := range list {
		given := api.Nfa{Start: m.Start, States: append(slices.Clone(m.States), stateMark(), stateMark())[:len(m.States)]}
		e := nfa.Check(given)
		behind := given.States[len(m.States) : len(m.States)+2]
		if !equal(given, m) || behind[0] != stateMark() || behind[1] != stateMark() {
			t.Fatalf("%.300s: what is handed in is changed", machineShown(m))
		}
		if e2 := nfa.Check(m); e != e2 {
			t.Fatalf("%.300s: errors %d and %d", machineShown(m), e, e2)
		}
	}
}

// No two answers share memory, and none hangs on what was answered ahead of it.
func TestApart(t *testing.T) {
	r := rand.New(rand.NewSource(117))
	for range 2000 {
		n := drawnTree(r, r.Intn(5))
		first, e := nfa.Make(n)
		second, e1 := nfa.Make(n)
		if e != e1 || !equal(first, second) {
			t.Fatalf("%.300s: two answers, errors %d and %d", shown(n), e, e1)
		}
		kept := api.Nfa{Start: first.Start, States: slices.Clone(first.States)}
		for i := range first.States[:cap(first.States)] {
			first.States[:cap(first.States)][i] = stateMark()
		}
		if third, _ := nfa.Make(n); !equal(second, kept) || !equal(third, kept) {
			t.Fatalf("%.300s: two answers share memory", shown(n))
		}
	}
}
