package match

import "vouch/api"

// run is a machine that goes over a text: its states at the place where it is, and those at the next one.
type run struct {
	states    []api.State
	start     int
	subject   string
	now, next crowd
}

func newRun(m api.Nfa, subject string) *run {
	count := len(m.States)
	return &run{states: m.States, start: m.Start, subject: subject, now: newCrowd(count), next: newCrowd(count)}
}

// over goes over the places up to the first one that has a StateDone, and tells whether there is one, and the steps.
func (r *run) over() (bool, int) {
	found, steps := false, 0
places:
	for at := range len(r.subject) + 1 {
		r.spread(at)
		steps += len(r.now.list)
		for _, place := range r.now.list {
			switch s := &r.states[place]; s.Kind {
			case api.StateDone:
				found = true
				break places
			case api.StateSet:
				r.read(s, at)
			}
		}
		r.now, r.next = r.next, r.now
		r.next.empty()
	}
	return found, steps
}

// spread puts to the states at a place all those to which they lead without a byte. The list grows while it is gone over, so that what is put last leads on too.
func (r *run) spread(at int) {
	r.now.add(r.start)
	for i := 0; i < len(r.now.list); i++ {
		switch s := &r.states[r.now.list[i]]; s.Kind {
		case api.StateSplit:
			r.now.add(s.Next)
			r.now.add(s.Other)
		case api.StateBegin:
			if at == 0 {
				r.now.add(s.Next)
			}
		case api.StateEnd:
			if at == len(r.subject) {
				r.now.add(s.Next)
			}
		}
	}
}

// read leads a StateSet on by the byte behind a place, if there is one.
func (r *run) read(s *api.State, at int) {
	if at < len(r.subject) && isIn(&s.Set, r.subject[at]) {
		r.next.add(s.Next)
	}
}

// isIn: is a byte in a set?
func isIn(set *api.Set, b byte) bool { return set[b/64]>>(b%64)&1 == 1 }
