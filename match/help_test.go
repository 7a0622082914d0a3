package match_test

import (
	"fmt"
	"math/rand"
	"slices"
	"strings"
	"testing"

	"vouch/api"
	"vouch/match"
)

const (
	mostStates = 4096  // of a machine
	mostBytes  = 65536 // of a text
)

// bytesOf is the set of the bytes of a text.
func bytesOf(s string) api.Set {
	var b api.Set
	for i := range len(s) {
		b[s[i]/64] |= 1 << (s[i] % 64)
	}
	return b
}

// The states.
func onSet(s string, next int) api.State { return api.State{Kind: 1, Set: bytesOf(s), Next: next} }
func fork(next, other int) api.State     { return api.State{Kind: 2, Next: next, Other: other} }
func atBegin(next int) api.State         { return api.State{Kind: 3, Next: next} }
func atEnd(next int) api.State           { return api.State{Kind: 4, Next: next} }
func done() api.State                    { return api.State{Kind: 5} }

func machine(start int, states ...api.State) api.Nfa { return api.Nfa{Start: start, States: states} }

// equal: two machines are the same.
func equal(a, b api.Nfa) bool { return a.Start == b.Start && slices.Equal(a.States, b.States) }

// machineShown is a machine, shortly.
func machineShown(m api.Nfa) string {
	list := []string{}
	for _, s := range m.States {
		list = append(list, fmt.Sprintf("%d %x %d %d", s.Kind, s.Set, s.Next, s.Other))
	}
	return fmt.Sprintf("Start %d: %s", m.Start, strings.Join(list, "; "))
}

// texts are all texts of at most so many of these letters.
func texts(letters string, most int) []string {
	list := []string{""}
	for from := 0; most > 0; most-- {
		to := len(list)
		for ; from < to; from++ {
			for i := range len(letters) {
				list = append(list, list[from]+letters[i:i+1])
			}
		}
	}
	return list
}

// drawnText is a text of at most so many of these letters.
func drawnText(r *rand.Rand, letters string, most int) string {
	b := make([]byte, r.Intn(most+1))
	for i := range b {
		b[i] = letters[r.Intn(len(letters))]
	}
	return string(b)
}

// at is what the words ask of a state to be among a machine's at a place, told of what else is among them there and at the place ahead.
func at(m api.Nfa, text string, place, state int, here, ahead map[int]bool) bool {
	if state == m.Start {
		return true
	}
	for i, s := range m.States {
		switch {
		case s.Kind == 1 && s.Next == state && place > 0 && ahead[i]:
			b := int(text[place-1])
			if s.Set[b/64]&(1<<(b%64)) != 0 {
				return true
			}
		case s.Kind == 2 && here[i] && (s.Next == state || s.Other == state):
			return true
		case s.Kind == 3 && here[i] && s.Next == state && place == 0:
			return true
		case s.Kind == 4 && here[i] && s.Next == state && place == len(text):
			return true
		}
	}
	return false
}

// statesByWords are a machine's states at a place: each is asked over and over, till none comes any more.
func statesByWords(m api.Nfa, text string, place int, ahead map[int]bool) map[int]bool {
	here := map[int]bool{}
	for count := -1; count < len(here); {
		count = len(here)
		for state := range m.States {
			if !here[state] && at(m, text, place, state, here, ahead) {
				here[state] = true
			}
		}
	}
	return here
}

// hasByWords is what the chapter's words say of a machine that may be, and a text that is not too long.
func hasByWords(m api.Nfa, text string) (bool, int) {
	steps := 0
	var here map[int]bool
	for place := 0; place <= len(text); place++ {
		here = statesByWords(m, text, place, here)
		steps += len(here)
		for state := range here {
			if m.States[state].Kind == 5 {
				return true, steps
			}
		}
	}
	return false, steps
}

// tells: Has tells just this.
func tells(t *testing.T, m api.Nfa, text string, want bool, steps int) {
	t.Helper()
	if ok, n, e := match.Has(m, text); ok != want || n != steps || e != api.OK {
		t.Fatalf("Has(%.400s; %.60q of %d bytes): %t, %d steps, error %d, want %t, %d steps", machineShown(m), text, len(text), ok, n, e, want, steps)
	}
}

// refuses: Has answers this error, and nothing beside it.
func refuses(t *testing.T, m api.Nfa, text string, want api.Errno) {
	t.Helper()
	if ok, n, e := match.Has(m, text); ok || n != 0 || e != want {
		t.Fatalf("Has(%.400s; %d bytes): %t, %d steps, error %d, want error %d", machineShown(m), len(text), ok, n, e, want)
	}
}

// finds: Find tells just this.
func finds(t *testing.T, pattern, text string, want bool, steps int) {
	t.Helper()
	if ok, n, e := match.Find(pattern, text); ok != want || n != steps || e != api.OK {
		t.Fatalf("Find(%q, %.60q): %t, %d steps, error %d, want %t, %d steps", pattern, text, ok, n, e, want, steps)
	}
}

// faulty are machines that may not be.
func faulty() []api.Nfa {
	return []api.Nfa{
		{}, {Start: 1}, {States: []api.State{}}, machine(1, done()), machine(-1, done()), machine(0, api.State{}), machine(0, api.State{Kind: 6}), machine(0, api.State{Kind: -1}), machine(0, done(), api.State{Kind: 6}),
		machine(0, onSet("a", 1)), machine(0, onSet("", -1)), machine(0, fork(0, 1)), machine(0, fork(1, 0)), machine(0, fork(0, -1)), machine(0, atBegin(1)), machine(0, atBegin(-1)), machine(0, atEnd(1)), machine(0, atEnd(-1)),
		machine(0, done(), onSet("a", 2)), {States: slices.Repeat([]api.State{done()}, mostStates+1)},
	}
}
