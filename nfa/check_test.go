package nfa_test

import (
	"math"
	"math/rand"
	"slices"
	"testing"

	"vouch/api"
	"vouch/nfa"
)

// checks: Check tells this error of the machine.
func checks(t *testing.T, what string, m api.Nfa, want api.Errno) {
	t.Helper()
	if e := nfa.Check(m); e != want {
		t.Fatalf("%s: Check tells error %d, want %d, of %.400s", what, e, want, machineShown(m))
	}
}

// strange are numbers that are no place of a few states.
func strange() []int {
	return []int{-1, -2, -4096, 1 << 32, 1 << 31, -1 << 32, 1<<32 + 1, math.MaxInt, math.MinInt, 4096, 4097, 65536, 256}
}

// mayBeByWords is what the chapter's words say of a machine.
func mayBeByWords(m api.Nfa) bool {
	places := map[int]bool{}
	for i := range m.States {
		places[i] = true
	}
	if len(places) < 1 || len(places) > mostStates || !places[m.Start] {
		return false
	}
	for _, s := range m.States {
		switch {
		case s.Kind < 1 || s.Kind > 5:
			return false
		case s.Kind != 5 && !places[s.Next]:
			return false
		case s.Kind == 2 && !places[s.Other]:
			return false
		}
	}
	return true
}

// P11.1: from 1 to 4096 states.
func TestStates(t *testing.T) {
	checks(t, "no states", api.Nfa{}, 110)
	checks(t, "an empty list", api.Nfa{States: []api.State{}}, 110)
	for _, start := range []int{1, -1, 4096} {
		checks(t, "no states", machine(start), 110)
	}
	for _, s := range []api.State{done(), stateOf("a", 0), fork(0, 0), atBegin(0), atEnd(0)} {
		checks(t, "one state", machine(0, s), api.OK)
		for n, e := range map[int]api.Errno{2: api.OK, 4095: api.OK, 4096: api.OK, 4097: 110, 4098: 110, 1 << 16: 110} {
			m := api.Nfa{States: slices.Repeat([]api.State{s}, n)}
			checks(t, "many states", m, e)
			m.Start = n - 1
			checks(t, "many states, begun at the last one", m, e)
			m.Start = n
			checks(t, "many states, begun behind them", m, 110)
			m.Start = n - 1
			if s.Kind != 5 {
				m.States[n-1].Next = n - 1
				m.States[0].Next = n - 1
				checks(t, "many states that lead to the last one", m, e)
				m.States[n-1].Next = n
				checks(t, "many states, the last of which leads behind it", m, 110)
			}
		}
	}
}

// P11.1: Start is one of the states.
func TestStart(t *testing.T) {
	for n := 1; n < 9; n++ {
		for start := -3; start < 12; start++ {
			want := api.Errno(110)
			if start >= 0 && start < n {
				want = api.OK
			}
			checks(t, "Start", api.Nfa{Start: start, States: slices.Repeat([]api.State{done()}, n)}, want)
		}
		for _, start := range strange() {
			checks(t, "a strange Start", api.Nfa{Start: start, States: slices.Repeat([]api.State{done()}, n)}, 110)
		}
	}
}

// P11.1: each Kind is one of the five, wherever the state stands.
func TestKinds(t *testing.T) {
	for kind := -300; kind < 300; kind++ {
		want := api.Errno(110)
		if kind >= 1 && kind <= 5 {
			want = api.OK
		}
		for at := range 4 {
			m := machine(1, done(), done(), done(), done())
			m.States[at].Kind = kind
			checks(t, "Kind", m, want)
		}
	}
	for _, kind := range append(strange(), 1<<32+2, 1<<32+5, 1<<8+5, 1<<16+1) {
		checks(t, "a strange Kind", machine(0, done(), api.State{Kind: kind}), 110)
	}
}

// P11.1: where Next and Other lead, of each kind; those that are not named count for nothing.
func TestLeads(t *testing.T) {
	for kind := 1; kind < 6; kind++ {
		for n := 1; n < 6; n++ {
			for at := range n {
				numbers := append(strange(), -1, 0, 1, 2, 3, 4, 5, 6)
				for _, next := range numbers {
					for _, other := range numbers {
						m := api.Nfa{Start: n - 1, States: slices.Repeat([]api.State{done()}, n)}
						m.States[at] = api.State{Kind: kind, Next: next, Other: other, Set: bytesOf("a")}
						want := api.Errno(110)
						if mayBeByWords(m) {
							want = api.OK
						}
						checks(t, "leads", m, want)
					}
				}
			}
		}
	}
	checks(t, "a split's Next", machine(0, fork(-1, 0)), 110)
	checks(t, "a split's Other", machine(0, fork(0, 1)), 110)
	checks(t, "a set's Other", machine(0, api.State{Kind: 1, Other: 7}), api.OK)
	checks(t, "a set's Next", machine(0, stateOf("a", 1)), 110)
	checks(t, "a beginning's Other", machine(0, api.State{Kind: 3, Other: -7}), api.OK)
	checks(t, "a beginning's Next", machine(0, atBegin(1)), 110)
	checks(t, "an end's Other", machine(0, api.State{Kind: 4, Other: 1}), api.OK)
	checks(t, "an end's Next", machine(0, atEnd(-1)), 110)
	checks(t, "what a StateDone has besides", machine(0, api.State{Kind: 5, Next: 9, Other: -9, Set: bytesOf("abc")}), api.OK)
	checks(t, "what others have of a set", machine(0, api.State{Kind: 2, Set: bytesOf("a")}, api.State{Kind: 3, Set: bytesOf("a")}, api.State{Kind: 4, Set: bytesOf("a")}), api.OK)
	checks(t, "rings without a StateDone", machine(2, fork(0, 1), fork(0, 2), atBegin(2)), api.OK)
}

// P11.1: drawn machines, against the chapter's words.
func TestDrawnMachines(t *testing.T) {
	r := rand.New(rand.NewSource(110))
	count := map[bool]int{}
	for range 200000 {
		n := r.Intn(7)
		m := api.Nfa{Start: r.Intn(n+1) - r.Intn(12)/11}
		for range n {
			s := api.State{Kind: 1 + r.Intn(5), Next: r.Intn(n), Other: r.Intn(n)}
			switch r.Intn(24) {
			case 0:
				s.Next = r.Intn(n+3) - 1
			case 1:
				s.Other = r.Intn(n+3) - 1
			case 2:
				s.Kind = r.Intn(8)
			}
			m.States = append(m.States, s)
		}
		may := mayBeByWords(m)
		count[may]++
		want := api.Errno(110)
		if may {
			want = api.OK
		}
		checks(t, "drawn", m, want)
	}
	if count[true] < 10000 || count[false] < 10000 {
		t.Errorf("%v", count)
	}
}
