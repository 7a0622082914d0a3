package pattern

import (
	"strings"

	"vouch/api"
)

// The signs of a bracket that begin and end things in it.
const (
	negation     = "^"
	bracketEnd   = "]"
	rangeSign    = "-"
	classBegin   = "[:"
	classEnd     = ":]"
	equalBegin   = "[="
	equalEnd     = "=]"
	collateBegin = "[."
	collateEnd   = ".]"
)

// bracket reads a bracket behind its [.
func (r *reader) bracket() (api.Node, api.Errno) {
	negated := r.takes(negation)
	var s api.Set
	for first := true; first || !r.takes(bracketEnd); first = false { // a ] that stands first is an item
		item, e := r.item()
		if e != api.OK {
			return api.Node{}, e
		}
		s = both(s, item)
	}
	if negated {
		s = others(s)
	}
	return setOf(s), api.OK
}

// item reads an item: the bytes that it has.
func (r *reader) item() (api.Set, api.Errno) {
	if r.takes(classBegin) {
		return r.class()
	}
	first, last, e := r.ends()
	if e != api.OK {
		return api.Set{}, e
	}
	return span(first, last), api.OK
}

// ends reads an item that is no class: its first and its last byte.
func (r *reader) ends() (byte, byte, api.Errno) {
	if r.takes(equalBegin) {
		c, e := r.enclosed(equalEnd)
		return c, c, e
	}
	first, e := r.member()
	if e != api.OK || !r.takesRange() {
		return first, first, e
	}
	last, e := r.second()
	if e == api.OK && last < first {
		e = api.ErrRange
	}
	return first, last, e
}

// takesRange reads the - of a range, if one stands here, and tells whether one does.
func (r *reader) takesRange() bool {
	return !r.stands(rangeSign+bracketEnd) && r.takes(rangeSign)
}

// class reads a class behind its [:.
func (r *reader) class() (api.Set, api.Errno) {
	name, _, ended := strings.Cut(r.text[r.at:], classEnd)
	if !ended {
		return api.Set{}, api.ErrBracket
	}
	holds, known := classes()[name]
	if !known {
		return api.Set{}, api.ErrClass
	}
	r.at += len(name) + len(classEnd)
	return those(holds), api.OK
}

// second reads the second member of a range.
func (r *reader) second() (byte, api.Errno) {
	if r.stands(classBegin) || r.stands(equalBegin) {
		return 0, api.ErrBracket
	}
	return r.member()
}

// member reads a member.
func (r *reader) member() (byte, api.Errno) {
	if r.takes(collateBegin) {
		return r.enclosed(collateEnd)
	}
	c, ok := r.take()
	if !ok {
		return 0, api.ErrBracket
	}
	return c, api.OK
}

// enclosed reads a byte and what must stand behind it.
func (r *reader) enclosed(end string) (byte, api.Errno) {
	c, ok := r.take()
	if !ok || !r.takes(end) {
		return 0, api.ErrBracket
	}
	return c, api.OK
}
