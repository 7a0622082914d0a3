package fields

import (
	"strings"

	"vouch/api"
)

const (
	colon   = ":"  // behind a name
	newline = "\n" // a line's last byte
)

// cut cuts a text into its fields, line by line; its bytes all may stand, and its first line begins a field.
func cut(text string) ([]api.Field, int, api.Errno) {
	var list []api.Field
	var ahead kinds
	at := 0
lines:
	for ; ; at = behindLine(text, at) {
		switch {
		case at == len(text):
			break lines
		case goesOn(text[at]):
			continue lines
		}
		f, e := begun(text, at)
		if e == api.OK {
			ahead, e = ahead.with(f.Kind)
		}
		if e != api.OK {
			return nil, at, e
		}
		list = append(list, f)
	}
	if !ahead[api.FieldAuthor] {
		return nil, at, api.ErrMissing
	}
	end(list, at)
	return list, 0, api.OK
}

// begun tells the field that the line at a place begins; where it ends is not told as yet.
func begun(text string, at int) (api.Field, api.Errno) {
	name, _, ok := strings.Cut(text[at:behindLine(text, at)], colon)
	kind, known := Kind(name)
	if !ok || !known {
		return api.Field{}, api.ErrField
	}
	return api.Field{Kind: kind, At: at, Body: at + len(name) + len(colon)}, api.OK
}

// end lets each field end where the next one begins, and the last one at the text's end.
func end(list []api.Field, at int) {
	for i := len(list) - 1; i >= 0; i-- {
		list[i].End = at
		at = list[i].At
	}
}

// find tells the field of a kind, and whether there is one.
func find(text string, kind uint8) (api.Field, bool, api.Errno) {
	list, _, e := Split(text)
	for _, f := range list {
		if f.Kind == kind {
			return f, true, e
		}
	}
	return api.Field{}, false, e
}

// kinds tells by each kind whether a field of it stands there (there is none of the kind 0).
type kinds [api.FieldSignature + 1]bool

// with tells these kinds and one more, if it may stand behind them.
func (k kinds) with(kind uint8) (kinds, api.Errno) {
	switch {
	case k[kind]:
		return kinds{}, api.ErrTwice
	case k[api.FieldSignature], kind == api.FieldVersion && k != kinds{}:
		return kinds{}, api.ErrOrder
	}
	k[kind] = true
	return k, api.OK
}

// behindLine tells the place behind the line at a place.
func behindLine(text string, at int) int {
	line, _, more := strings.Cut(text[at:], newline)
	if !more {
		return len(text)
	}
	return at + len(line) + len(newline)
}

// mayStand: may a byte stand in an assertion?
func mayStand(b byte) bool {
	return b >= ' ' && b <= '~' || b == '\t' || b == '\n' || b == '\r'
}

// goesOn: does a line with this first byte go on with the field ahead of it?
func goesOn(b byte) bool {
	return b == '\t' || b == '\n' || b == '\r' || b == ' '
}
