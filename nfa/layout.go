package nfa

import (
	"slices"

	"vouch/api"
)

// endless is the Max of a NodeRepeat that has none.
const endless = -1

// way is how the trees of a kind are laid to a state: it tells the state at which the tree begins.
type way func(l *layout, n api.Node, to int) int

// layout is a machine that is being laid, state by state.
type layout struct {
	states []api.State
	ways   [api.NodeRepeat + 1]way
}

// newLayout tells a layout without states, with room for so many.
func newLayout(size int) *layout {
	return &layout{states: make([]api.State, 0, size), ways: ways()}
}

// ways tells the way of each kind.
func ways() [api.NodeRepeat + 1]way {
	return [api.NodeRepeat + 1]way{
		api.NodeNone:   (*layout).none,
		api.NodeSet:    (*layout).set,
		api.NodeBegin:  (*layout).begin,
		api.NodeEnd:    (*layout).end,
		api.NodeRow:    (*layout).row,
		api.NodeChoice: (*layout).choice,
		api.NodeRepeat: (*layout).repeat,
	}
}

// add puts a new state at the next place, and tells the place.
func (l *layout) add(s api.State) int {
	l.states = append(l.states, s)
	return len(l.states) - 1
}

// lay lays a tree to a state, in its kind's way.
func (l *layout) lay(n api.Node, to int) int { return l.ways[n.Kind](l, n, to) }

func (l *layout) none(_ api.Node, to int) int { return to }

func (l *layout) set(n api.Node, to int) int {
	return l.add(api.State{Kind: api.StateSet, Set: n.Set, Next: to})
}

func (l *layout) begin(_ api.Node, to int) int {
	return l.add(api.State{Kind: api.StateBegin, Next: to})
}

func (l *layout) end(_ api.Node, to int) int {
	return l.add(api.State{Kind: api.StateEnd, Next: to})
}

func (l *layout) row(n api.Node, to int) int {
	for _, part := range slices.Backward(n.Parts) {
		to = l.lay(part, to)
	}
	return to
}

func (l *layout) choice(n api.Node, to int) int {
	var begins []int
	for _, part := range n.Parts {
		begins = append(begins, l.lay(part, to))
	}
	last := len(begins) - 1
	x := begins[last]
	for _, begin := range slices.Backward(begins[:last]) {
		x = l.add(split(begin, x))
	}
	return x
}

func (l *layout) repeat(n api.Node, to int) int {
	part := n.Parts[0]
	if n.Max == endless {
		to = l.round(part, to)
	} else {
		to = l.perhaps(part, n.Max-n.Min, to)
	}
	return l.times(part, n.Min, to)
}

// round lays a part that is gone round, however often, ahead of a state.
func (l *layout) round(part api.Node, to int) int {
	s := l.add(split(0, to))
	begin := l.lay(part, s) // ahead of the assignment: the states may move while it is laid
	l.states[s].Next = begin
	return s
}

// perhaps lays a part up to so many times ahead of a state; each time may be left out, and all behind it with it.
func (l *layout) perhaps(part api.Node, times, to int) int {
	out := to
	for range times {
		to = l.add(split(l.lay(part, to), out))
	}
	return to
}

// times lays a part so many times ahead of a state; one that lays no state once alone, for such ones in one another would take too long.
func (l *layout) times(part api.Node, times, to int) int {
	for range times {
		count := len(l.states)
		to = l.lay(part, to)
		if len(l.states) == count {
			break
		}
	}
	return to
}
