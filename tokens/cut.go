package tokens

import (
	"strings"

	"vouch/api"
)

const (
	remark = '#'
	quote  = '"'
	dot    = "."
	of     = "-of"
)

// token tells the token that begins at a place; or the place of what is wrong.
func token(body string, at int) (api.Token, int, api.Errno) {
	if body[at] == quote {
		text, end, e := unquoted(body, at)
		if e != api.OK {
			return api.Token{}, end, e
		}
		return api.Token{Kind: api.TokString, Text: text, At: at, End: end}, 0, api.OK
	}
	kind, size := longest(body[at:])
	if size == 0 {
		return api.Token{}, at, api.ErrToken
	}
	end := at + size
	text := body[at:end]
	if kind == api.TokOf {
		text = strings.TrimSuffix(text, of)
	}
	return api.Token{Kind: kind, Text: strings.Clone(text), At: at, End: end}, 0, api.OK
}

// longest tells the kind of the longest token with which a text begins, strings aside, and how many bytes it has; none, if there is no such token.
func longest(s string) (uint8, int) {
	if digits := front(s, digit); digits > 0 {
		return number(s, digits)
	}
	if size := front(s, inName); size > 0 {
		return api.TokName, size
	}
	return api.TokSign, sign(s)
}

// number is longest of a text that begins with so many digits.
func number(s string, digits int) (uint8, int) {
	if rest, ok := strings.CutPrefix(s[digits:], dot); ok {
		if more := front(rest, digit); more > 0 {
			return api.TokDec, digits + len(dot) + more
		}
	}
	if rest, ok := strings.CutPrefix(s[digits:], of); ok && front(rest, inName) == 0 {
		return api.TokOf, digits + len(of)
	}
	return api.TokNumber, digits
}

// sign counts the bytes of the longest sign with which a text begins.
func sign(s string) int {
	switch s[:min(len(s), 2)] {
	case "->", "&&", "||", "==", "!=", "<=", ">=", "~=":
		return 2
	}
	if s != "" && strings.IndexByte("(){};!<>+-*/%^.$@&,=", s[0]) >= 0 {
		return 1
	}
	return 0
}

// behindBlank tells the first place, from this one on, at which nothing blank stands.
func behindBlank(body string, at int) int {
	for ; at < len(body); at++ {
		switch {
		case blank(body[at]):
		case body[at] == remark:
			line, _, _ := strings.Cut(body[at:], "\n")
			at += len(line) - 1 // at its last byte
		default:
			return at
		}
	}
	return at
}

// front counts the bytes with which a text begins that fit.
func front(s string, fits func(byte) bool) int {
	n := 0
	for n < len(s) && fits(s[n]) {
		n++
	}
	return n
}

func blank(b byte) bool { return b == '\n' || inRow(b) }

// inRow: is it blank, and ends no line?
func inRow(b byte) bool { return b == '\t' || b == '\r' || b == ' ' }

func digit(b byte) bool { return b >= '0' && b <= '9' }

// inName: may it stand in a name? (The first byte of one is no digit.)
func inName(b byte) bool {
	return b >= 'a' && b <= 'z' || b >= 'A' && b <= 'Z' || b == '_' || digit(b)
}
