package pattern

import (
	"strings"

	"vouch/api"
)

// The signs of a pattern that begin, part and end things in it.
const (
	stroke      = "|" // between alternatives
	opening     = "("
	closing     = ")"
	comma       = "," // between the numbers of an interval
	intervalEnd = "}" // at an interval's end

	repeatSigns = "*+?{"
)

// reader reads a text from the left.
type reader struct {
	text string
	at   int // the place of the byte that is read next
	open int // how many ( are open
}

// ended: is all of the text read?
func (r *reader) ended() bool { return r.at == len(r.text) }

// stands: does this stand here?
func (r *reader) stands(what string) bool { return strings.HasPrefix(r.text[r.at:], what) }

// takes reads this, if it stands here, and tells whether it does.
func (r *reader) takes(what string) bool {
	if !r.stands(what) {
		return false
	}
	r.at += len(what)
	return true
}

// take reads a byte; false, if none is left.
func (r *reader) take() (byte, bool) {
	if r.ended() {
		return 0, false
	}
	c := r.text[r.at]
	r.at++
	return c, true
}

// pattern reads alternatives, as many as there are.
func (r *reader) pattern() (api.Node, api.Errno) {
	var parts []api.Node
	for more := true; more; more = r.takes(stroke) {
		n, e := r.alternative()
		if e != api.OK {
			return api.Node{}, e
		}
		parts = append(parts, n)
	}
	return joined(api.NodeChoice, parts), api.OK
}

// alternative reads pieces, up to where an alternative ends.
func (r *reader) alternative() (api.Node, api.Errno) {
	var parts []api.Node
	for !r.ended() && !r.stands(stroke) && !r.stands(closing) {
		n, e := r.piece()
		if e != api.OK {
			return api.Node{}, e
		}
		parts = append(parts, n)
	}
	return joined(api.NodeRow, parts), api.OK
}

// piece reads an atom and the signs of repetition behind it.
func (r *reader) piece() (api.Node, api.Errno) {
	n, e := r.atom()
	if e != api.OK {
		return api.Node{}, e
	}
	for r.repeats() {
		least, most, e := r.times()
		if e != api.OK {
			return api.Node{}, e
		}
		n = repeated(n, least, most)
	}
	return n, api.OK
}

// repeats: does a sign of repetition stand here, be it whole or not?
func (r *reader) repeats() bool {
	return !r.ended() && strings.IndexByte(repeatSigns, r.text[r.at]) >= 0
}

// times reads a sign of repetition: how often at least and at most.
func (r *reader) times() (int, int, api.Errno) {
	c, _ := r.take()
	switch c {
	case '*':
		return 0, endless, api.OK
	case '+':
		return 1, endless, api.OK
	case '?':
		return 0, 1, api.OK
	}
	return r.interval()
}

// interval reads an interval behind its {.
func (r *reader) interval() (int, int, api.Errno) {
	inside, _, ended := strings.Cut(r.text[r.at:], intervalEnd)
	first, second, parted := strings.Cut(inside, comma)
	least, ok := number(first)
	most := least
	if parted && second == "" {
		most = endless
	} else if parted && ok {
		most, ok = number(second)
	}
	if !ended || !ok || !isInterval(least, most) {
		return 0, 0, api.ErrInterval
	}
	r.at += len(inside) + len(intervalEnd)
	return least, most, api.OK
}

// number tells the number of one to three digits; false, if the text is none such.
func number(text string) (int, bool) {
	if len(text) < 1 || len(text) > 3 {
		return 0, false
	}
	n := 0
	for i := range len(text) {
		if !isDigit(text[i]) {
			return 0, false
		}
		n = 10*n + int(text[i]-'0')
	}
	return n, true
}

// atom reads an atom; something stands here that ends no alternative.
func (r *reader) atom() (api.Node, api.Errno) {
	if r.repeats() {
		return api.Node{}, api.ErrRepeat
	}
	c, ok := r.take()
	switch c {
	case '(':
		return r.group()
	case '[':
		return r.bracket()
	case '.':
		return setOf(every()), api.OK
	case '^':
		return api.Node{Kind: api.NodeBegin}, api.OK
	case '$':
		return api.Node{Kind: api.NodeEnd}, api.OK
	case '\\':
		c, ok = r.take()
	}
	if !ok {
		return api.Node{}, api.ErrEscape
	}
	return setOf(only(c)), api.OK
}

// group reads a pattern behind a (, and its ).
func (r *reader) group() (api.Node, api.Errno) {
	if r.open == api.MaxDepth {
		return api.Node{}, api.ErrLimit
	}
	r.open++
	n, e := r.pattern()
	if e != api.OK {
		return api.Node{}, e
	}
	if !r.takes(closing) {
		return api.Node{}, api.ErrParen
	}
	r.open--
	return n, api.OK
}
