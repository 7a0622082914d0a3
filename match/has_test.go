package match_test

import (
	"math"
	"math/rand"
	"slices"
	"strings"
	"testing"

	"vouch/api"
)

// states are all states that lead to so many others, with these sets.
func states(count int, sets []string) []api.State {
	list := []api.State{done()}
	for next := range count {
		list = append(list, atBegin(next), atEnd(next))
		for _, s := range sets {
			list = append(list, onSet(s, next))
		}
		for other := range count {
			list = append(list, fork(next, other))
		}
	}
	return list
}

// machines hands out all machines of so many of these states.
func machines(count int, list []api.State, hand func(api.Nfa)) {
	chosen := make([]api.State, count)
	var choose func(i int)
	choose = func(i int) {
		if i < count {
			for _, s := range list {
				chosen[i] = s
				choose(i + 1)
			}
			return
		}
		for start := range count {
			hand(api.Nfa{Start: start, States: chosen})
		}
	}
	choose(0)
}

// P12.1: over all machines of one state and of two, and those of three that have no empty set, all short texts.
func TestAllMachines(t *testing.T) {
	sets := []string{"a", "ab", ""}
	for count, letters := range map[int]int{1: 4, 2: 4, 3: 2} {
		list := texts("ab", letters)
		machines(count, states(count, sets[:min(3, 5-count)]), func(m api.Nfa) {
			for _, text := range list {
				want, steps := hasByWords(m, text)
				tells(t, m, text, want, steps)
			}
		})
	}
}

// drawnMachine is one that may be, of at most so many states; the fields that its states' kinds don't name are anything.
func drawnMachine(r *rand.Rand, most int) api.Nfa {
	m := api.Nfa{States: make([]api.State, 1+r.Intn(most))}
	count := len(m.States)
	m.Start = r.Intn(count)
	strange := []int{-1, count, 0, math.MaxInt, math.MinInt, r.Intn(count)}
	for i := range m.States {
		s := api.State{Kind: 1 + r.Intn(5), Set: bytesOf(drawnText(r, "abc", 3)), Next: r.Intn(count), Other: r.Intn(count)}
		if s.Kind == 5 && r.Intn(3) > 0 {
			s.Kind = 1
		}
		if s.Kind == 5 {
			s.Next = strange[r.Intn(len(strange))]
		}
		if s.Kind != 2 {
			s.Other = strange[r.Intn(len(strange))]
		}
		m.States[i] = s
	}
	return m
}

// P12.1: drawn machines, the fields that count for nothing told too.
func TestDrawnMachines(t *testing.T) {
	r := rand.New(rand.NewSource(121))
	for range 20000 {
		m := drawnMachine(r, 1+r.Intn(12))
		for range 4 {
			text := drawnText(r, "abcd", 8)
			want, steps := hasByWords(m, text)
			tells(t, m, text, want, steps)
		}
	}
}

// P12.1: drawn machines that have no StateDone, and many states, so that all places are gone over.
func TestDrawnGreatMachines(t *testing.T) {
	r := rand.New(rand.NewSource(122))
	for range 60 {
		m := drawnMachine(r, 120)
		for i := range m.States {
			if m.States[i].Kind == 5 {
				m.States[i] = onSet("abc", r.Intn(len(m.States)))
			}
		}
		text := drawnText(r, "abc", 20)
		want, steps := hasByWords(m, text)
		if want {
			t.Fatal("a machine that has no StateDone")
		}
		tells(t, m, text, want, steps)
	}
}

// P12.1: a byte leads on just if it is in the set, whichever of all bytes it is.
func TestBytes(t *testing.T) {
	all := make([]byte, 256)
	for i := range all {
		all[i] = byte(i)
	}
	for b := range 256 {
		alone := machine(1, done(), onSet(string(all[b:b+1]), 0))
		others := machine(1, done(), onSet(string(all[:b])+string(all[b+1:]), 0))
		for c := range 256 {
			text := string(all[c : c+1])
			steps := map[bool]int{true: 3, false: 2}
			tells(t, alone, text, b == c, steps[b == c])
			tells(t, others, text, b != c, steps[b != c])
		}
		tells(t, alone, string(all), true, b+3)
		tells(t, alone, string(all[b+1:])+string(all[:b]), false, 256)
	}
}

// P12.1: what stands at the beginning leads on at place 0 alone, what stands at the end at the last one, in a text without bytes both.
func TestBeginEnd(t *testing.T) {
	begin, end, both := machine(1, done(), atBegin(0)), machine(1, done(), atEnd(0)), machine(2, done(), atEnd(0), atBegin(1))
	late := machine(2, done(), atBegin(0), onSet("a", 1))  // a beginning behind a byte
	early := machine(2, done(), onSet("a", 0), atEnd(1))   // an end ahead of one
	last := machine(2, done(), atEnd(0), onSet("a", 1))    // a$
	first := machine(2, done(), onSet("a", 0), atBegin(1)) // ^a
	twice := machine(3, done(), onSet("b", 0), atBegin(1), atBegin(2))
	for _, x := range []struct {
		m     api.Nfa
		text  string
		want  bool
		steps int
	}{
		{begin, "", true, 2}, {begin, "a", true, 2}, {end, "", true, 2}, {end, "a", true, 3}, {end, "aab", true, 5}, {both, "", true, 3}, {both, "a", false, 3}, {both, "ab", false, 4},
		{late, "", false, 1}, {late, "a", false, 3}, {late, "aa", false, 5}, {early, "", false, 2}, {early, "a", false, 3}, {early, "ba", false, 4},
		{last, "a", true, 4}, {last, "ba", true, 5}, {last, "ab", false, 4}, {last, "", false, 1}, {first, "a", true, 4}, {first, "ba", false, 4}, {first, "ab", true, 4}, {first, "", false, 2},
		{twice, "b", true, 5}, {twice, "ab", false, 5},
	} {
		tells(t, x.m, x.text, x.want, x.steps)
	}
}

// P12.1: each state counts once, and states that lead to one another in a ring have an end.
func TestOnce(t *testing.T) {
	for _, text := range texts("ab", 4) {
		places := len(text) + 1
		tells(t, machine(0, fork(0, 0)), text, false, places)
		tells(t, machine(0, fork(1, 1), fork(0, 0)), text, false, 2*places)
		tells(t, machine(0, fork(1, 2), fork(2, 0), fork(0, 1)), text, false, 3*places)
		tells(t, machine(0, onSet("ab", 0)), text, false, places)
		tells(t, machine(0, onSet("ab", 1), onSet("ab", 1)), text, false, 2*places-1)
		tells(t, machine(0, atBegin(0)), text, false, places)
		tells(t, machine(0, atEnd(0)), text, false, places)
		tells(t, machine(1, done(), fork(0, 1)), text, true, 2)
		tells(t, machine(0, done(), done()), text, true, 1)
		tells(t, machine(0, fork(1, 2), done(), done(), done()), text, true, 3)
	}
}

// P12.1: the place at which a StateDone stands counts whole, what is put there behind it too; those behind it count nothing.
func TestFirstPlace(t *testing.T) {
	m := machine(0, fork(1, 2), done(), fork(3, 4), onSet("a", 3), fork(5, 0), atBegin(6), atEnd(5))
	tells(t, m, "", true, 7)
	tells(t, m, "aaa", true, 7)
	late := machine(0, onSet("a", 1), fork(2, 3), done(), fork(4, 4), onSet("b", 4))
	tells(t, late, "a", true, 6)
	tells(t, late, "ba", true, 7)
	tells(t, late, "aaaaaaaaa", true, 6)
	tells(t, late, "bab"+strings.Repeat("a", 1000), true, 7)
	tells(t, late, strings.Repeat("b", 1000)+"a"+strings.Repeat("b", 1000), true, 1006)
	tells(t, late, strings.Repeat("b", 1000), false, 1001)
}

// P12.1: ErrMachine, ahead of ErrLimit; ErrLimit with more than 65536 bytes.
func TestRefused(t *testing.T) {
	most := strings.Repeat("a", mostBytes)
	for _, m := range faulty() {
		for _, text := range []string{"", "a", "ba", most, most + "a"} {
			refuses(t, m, text, 110)
		}
	}
	whole := machine(1, done(), onSet("b", 0))
	for _, m := range []api.Nfa{whole, machine(0, done()), machine(0, onSet("", 0)), {States: slices.Repeat([]api.State{done()}, mostStates)}} {
		refuses(t, m, most+"a", 3)
		refuses(t, m, most+most, 3)
		refuses(t, m, strings.Repeat("b", mostBytes+1), 3)
	}
	tells(t, whole, most, false, mostBytes+1)
	tells(t, whole, most[1:], false, mostBytes)
	tells(t, whole, most[1:]+"b", true, mostBytes+2)
	tells(t, machine(0, done()), most, true, 1)
}

// P12.1: the greatest machine over the longest text, all its states at each place.
func TestGreatest(t *testing.T) {
	var list []api.State
	for i := range mostStates {
		list = append(list, fork((i+1)%mostStates, i*7%mostStates))
	}
	tells(t, machine(4095, list...), strings.Repeat("a", mostBytes), false, mostStates*(mostBytes+1))
	list[4000] = done()
	tells(t, machine(4001, list...), "", true, mostStates)
	for i := range list {
		list[i] = onSet("a", (i+1)%mostStates)
	}
	list[4095] = atEnd(0)
	steps := mostStates*(mostStates+1)/2 + (mostBytes+1-mostStates)*mostStates
	tells(t, machine(0, list...), strings.Repeat("a", mostBytes), false, steps)
}
