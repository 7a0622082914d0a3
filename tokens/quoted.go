package tokens

import (
	"strings"

	"vouch/api"
)

// Behind a backslash a byte of letters stands for the byte of meant at its place.
const (
	backslash = '\\'
	letters   = "\"\\ntr"
	meant     = "\"\\\n\t\r"
)

// unquoted tells what the string that begins at a place stands for, and the place behind it; or the place of what is wrong.
func unquoted(body string, first int) (string, int, api.Errno) {
	var text strings.Builder
	var i, slash, worth int // here, for goto may not leap over them
	at := first + 1

plain:
	if at == len(body) || body[at] == '\n' {
		goto endless
	}
	switch body[at] {
	case quote:
		return text.String(), at + 1, api.OK
	case backslash:
		slash = at
		at++
		goto behindSlash
	}
	text.WriteByte(body[at])
	at++
	goto plain

behindSlash:
	if at == len(body) {
		goto endless
	}
	if body[at] == '\n' {
		at++
		goto brokenLine
	}
	i = strings.IndexByte(letters, body[at])
	if i < 0 {
		worth = 0
		goto digits
	}
	text.WriteByte(meant[i])
	at++
	goto plain

digits:
	if at == len(body) {
		goto endless
	}
	if !octal(body[at]) || worth > 0o37 { // with one digit more it would be past 377
		return "", slash, api.ErrSlash
	}
	worth = worth<<3 | int(body[at]-'0')
	at++
	if at-slash <= 3 {
		goto digits
	}
	text.WriteByte(byte(worth))
	goto plain

brokenLine:
	at += front(body[at:], inRow)
	goto plain

endless:
	return "", first, api.ErrString
}

// writePiece writes the piece that stands for a byte, in the one way.
func writePiece(out *strings.Builder, b byte) {
	i := strings.IndexByte(meant, b)
	switch {
	case i >= 0:
		out.WriteByte(backslash)
		out.WriteByte(letters[i])
	case b >= ' ' && b <= '~':
		out.WriteByte(b)
	default:
		out.WriteByte(backslash)
		out.WriteByte('0' + b>>6)
		out.WriteByte('0' + b>>3&7)
		out.WriteByte('0' + b&7)
	}
}

func octal(b byte) bool { return b >= '0' && b <= '7' }
