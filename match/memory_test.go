package match_test

import (
	"math/rand"
	"slices"
	"strings"
	"testing"

	"vouch/api"
	"vouch/match"
)

// mark is a state that stands in the memory behind a list.
func mark() api.State {
	return api.State{Kind: 92, Next: 91, Other: 90, Set: api.Set{89, 88, 87, 86}}
}

// A machine that is handed in is neither changed, what lies behind its list included, nor kept; be it refused or not.
func TestMachineIn(t *testing.T) {
	r := rand.New(rand.NewSource(126))
	list := append(faulty(), machine(1, done(), onSet("ab", 0)))
	for range 2000 {
		list = append(list, drawnMachine(r, 10))
	}
	for _, m := range list {
		for _, text := range []string{drawnText(r, "abc", 8), strings.Repeat("a", mostBytes+1)} {
			given := api.Nfa{Start: m.Start, States: append(slices.Clone(m.States), mark(), mark())[:len(m.States)]}
			ok, n, e := match.Has(given, text)
			behind := given.States[len(m.States) : len(m.States)+2]
			if !equal(given, m) || behind[0] != mark() || behind[1] != mark() {
				t.Fatalf("%.300s: what is handed in is changed", machineShown(m))
			}
			for i := range given.States {
				given.States[i] = mark()
			}
			refuses(t, api.Nfa{States: []api.State{mark()}}, text, 110)
			if ok2, n2, e2 := match.Has(m, text); ok != ok2 || n != n2 || e != e2 {
				t.Fatalf("%.300s: what is handed in is kept: %t, %d, %d and %t, %d, %d", machineShown(m), ok, n, e, ok2, n2, e2)
			}
		}
	}
}

// No two answers of Compile share memory, and none hangs on what was answered ahead of it.
func TestApart(t *testing.T) {
	r := rand.New(rand.NewSource(127))
	for range 4000 {
		text := drawnPattern(r)
		first, e := match.Compile(text)
		second, e1 := match.Compile(text)
		if e != e1 || !equal(first, second) {
			t.Fatalf("Compile(%q): two answers, errors %d and %d", text, e, e1)
		}
		kept := api.Nfa{Start: first.Start, States: slices.Clone(first.States)}
		ok, n, _ := match.Find(text, "ab")
		for i := range first.States[:cap(first.States)] {
			first.States[:cap(first.States)][i] = mark()
		}
		if third, _ := match.Compile(text); !equal(second, kept) || !equal(third, kept) {
			t.Fatalf("Compile(%q): two answers share memory", text)
		}
		if ok2, n2, _ := match.Find(text, "ab"); ok != ok2 || n != n2 {
			t.Fatalf("Find(%q): two answers", text)
		}
	}
}
