package pattern

import (
	"strconv"
	"strings"

	"vouch/api"
)

const (
	escapedOutside = `\^.[$()|*+?{` // what stands with a \ ahead, where a byte stands alone
	escapedInside  = "][^-"         // what stands in [. and .], where bytes stand in a bracket
	nothing        = "[^\x00-\xFF]" // the set of no byte
)

// writer writes trees behind one another.
type writer struct {
	text          []byte
	open, deepest int // how many ( are open, and how many were at most
}

// node writes a tree.
func (w *writer) node(n api.Node) {
	switch n.Kind {
	case api.NodeSet:
		w.set(n.Set)
	case api.NodeBegin:
		w.put("^")
	case api.NodeEnd:
		w.put("$")
	case api.NodeRow:
		for _, part := range n.Parts {
			w.part(part, !isPiece(part))
		}
	case api.NodeChoice:
		for i, part := range n.Parts {
			if i > 0 {
				w.put(stroke)
			}
			w.part(part, part.Kind == api.NodeChoice)
		}
	case api.NodeRepeat:
		w.part(n.Parts[0], !isPiece(n.Parts[0]))
		w.put(sign(n.Min, n.Max))
	}
}

func (w *writer) put(text string) { w.text = append(w.text, text...) }

// part writes a part of a tree, in ( and ) where it must be.
func (w *writer) part(n api.Node, grouped bool) {
	if !grouped {
		w.node(n)
		return
	}
	w.open++
	w.deepest = max(w.deepest, w.open)
	w.put(opening)
	w.node(n)
	w.put(closing)
	w.open--
}

// isPiece: is a tree read as one piece, as it is written?
func isPiece(n api.Node) bool {
	return n.Kind != api.NodeNone && n.Kind != api.NodeRow && n.Kind != api.NodeChoice
}

// set writes a set of bytes.
func (w *writer) set(s api.Set) {
	list := runs(s)
	switch {
	case s == every():
		w.put(".")
	case len(list) == 0:
		w.put(nothing)
	case len(list) == 1 && list[0].first == list[0].last:
		w.alone(list[0].first)
	default:
		w.put("[")
		for _, x := range list {
			w.run(x)
		}
		w.put(bracketEnd)
	}
}

// alone writes a byte outside of brackets.
func (w *writer) alone(c byte) {
	if strings.IndexByte(escapedOutside, c) >= 0 {
		w.put(`\`)
	}
	w.text = append(w.text, c)
}

// run writes a run in a bracket.
func (w *writer) run(x run) {
	w.inside(x.first)
	if x.last-x.first > 1 {
		w.put(rangeSign)
	}
	if x.last > x.first {
		w.inside(x.last)
	}
}

// inside writes a byte in a bracket.
func (w *writer) inside(c byte) {
	if strings.IndexByte(escapedInside, c) < 0 {
		w.text = append(w.text, c)
		return
	}
	w.put(collateBegin)
	w.text = append(w.text, c)
	w.put(collateEnd)
}

// sign tells the sign of a repetition.
func sign(least, most int) string {
	switch {
	case least == 0 && most == endless:
		return "*"
	case least == 1 && most == endless:
		return "+"
	case least == 0 && most == 1:
		return "?"
	}
	text := "{" + strconv.Itoa(least)
	if most != least {
		text += comma
	}
	if most != least && most != endless {
		text += strconv.Itoa(most)
	}
	return text + intervalEnd
}
