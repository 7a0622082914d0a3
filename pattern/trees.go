package pattern

import "vouch/api"

// counted tells how many nodes a tree has, or one more than so many, where it has more: a tree made by hand may hold itself.
func counted(n api.Node, most int) int {
	count := 1
	for _, part := range n.Parts {
		if count > most {
			break
		}
		count += counted(part, most-count)
	}
	return count
}

// mayBe: may a tree be? Its nodes are counted already.
func mayBe(n api.Node) bool {
	if !fits(n) {
		return false
	}
	for _, part := range n.Parts {
		if !mayBe(part) {
			return false
		}
	}
	return true
}

// fits: has a node what its kind asks for, and nothing else?
func fits(n api.Node) bool {
	if n.Kind != api.NodeSet && n.Set != (api.Set{}) {
		return false
	}
	if n.Kind != api.NodeRepeat && (n.Min != 0 || n.Max != 0) {
		return false
	}
	switch n.Kind {
	case api.NodeNone, api.NodeSet, api.NodeBegin, api.NodeEnd:
		return len(n.Parts) == 0
	case api.NodeRow, api.NodeChoice:
		return len(n.Parts) >= 2
	case api.NodeRepeat:
		return len(n.Parts) == 1 && isInterval(n.Min, n.Max)
	}
	return false
}

// isInterval: may something be repeated from least to most times?
func isInterval(least, most int) bool {
	if least < 0 || least > api.MaxRepeat {
		return false
	}
	return most == endless || most >= least && most <= api.MaxRepeat
}

// joined tells the node of this kind that several parts make, the part itself of one, and a NodeNone of none.
func joined(kind int, parts []api.Node) api.Node {
	switch len(parts) {
	case 0:
		return api.Node{Kind: api.NodeNone}
	case 1:
		return parts[0]
	}
	return api.Node{Kind: kind, Parts: parts}
}

// repeated tells the node of one that is repeated.
func repeated(n api.Node, least, most int) api.Node {
	return api.Node{Kind: api.NodeRepeat, Min: least, Max: most, Parts: []api.Node{n}}
}

// setOf tells the node of a set.
func setOf(s api.Set) api.Node { return api.Node{Kind: api.NodeSet, Set: s} }
