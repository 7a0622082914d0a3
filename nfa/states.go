package nfa

import "vouch/api"

// isPlace: is there a state at this place, where there are so many?
func isPlace(place, count int) bool { return place >= 0 && place < count }

// fits: does a state lead only to states, where there are so many?
func fits(s api.State, count int) bool {
	switch s.Kind {
	case api.StateSet, api.StateBegin, api.StateEnd:
		return isPlace(s.Next, count)
	case api.StateSplit:
		return isPlace(s.Next, count) && isPlace(s.Other, count)
	case api.StateDone:
		return true
	}
	return false
}

// split tells the state that leads to both.
func split(next, other int) api.State {
	return api.State{Kind: api.StateSplit, Next: next, Other: other}
}
