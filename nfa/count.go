package nfa

import "vouch/api"

// counted tells how many states a tree lays, or one more than MaxStates, where it lays more: repetitions in one another would soon be past every number.
func counted(n api.Node) int {
	count := 1 // of a set, a beginning, an end
	switch n.Kind {
	case api.NodeNone:
		count = 0
	case api.NodeRow:
		count = together(n.Parts)
	case api.NodeChoice:
		count = together(n.Parts) + len(n.Parts) - 1
	case api.NodeRepeat:
		count = repeated(counted(n.Parts[0]), n.Min, n.Max)
	}
	return min(count, api.MaxStates+1)
}

// together tells how many states the parts lay.
func together(parts []api.Node) int {
	count := 0
	for _, part := range parts {
		count += counted(part)
	}
	return count
}

// repeated tells how many states a repetition lays, whose part lays so many.
func repeated(part, least, most int) int {
	again := 1 // the part that is gone round
	if most != endless {
		again = most - least
	}
	return again*(part+1) + least*part
}
