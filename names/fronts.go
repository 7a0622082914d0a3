package names

import (
	"strings"

	"vouch/api"
	"vouch/coding"
)

const (
	colon = ":" // behind a front
	dash  = "-" // between the pieces of a front

	// lettersAndDigits are what an algorithm is made of, in small letters.
	lettersAndDigits = "abcdefghijklmnopqrstuvwxyz0123456789"
)

// encoding is a way in which bytes stand in a text: its name, and what reads them.
type encoding struct {
	name string
	read func(string) ([]byte, api.Errno)
}

// encodings are all ways that there are.
func encodings() []encoding {
	return []encoding{{"hex", coding.Unhex}, {"base64", coding.Unbase64}}
}

// encodingOf tells the encoding of a name in small letters; false, if there is none.
func encodingOf(name string) (encoding, bool) {
	for _, way := range encodings() {
		if way.name == name {
			return way, true
		}
	}
	return encoding{}, false
}

// coded is a text whose front ends in - and an encoding, taken apart.
type coded struct {
	front string // as it stands in the text
	about string // what stands ahead of that -, in small letters
	way   encoding
	data  string
}

// apart takes a text apart; false, if it is none such.
func apart(text string) (coded, bool) {
	front, data, ok := strings.Cut(text, colon)
	at := strings.LastIndex(front, dash)
	if !ok || at < 0 {
		return coded{}, false
	}
	way, ok := encodingOf(small(front[at+len(dash):]))
	return coded{front, small(front[:at]), way, data}, ok
}

// bytes tells the bytes of the data.
func (x coded) bytes() ([]byte, api.Errno) {
	b, e := x.way.read(x.data)
	if e != api.OK {
		return nil, api.ErrEncoding
	}
	return b, api.OK
}

// isAlgorithm: is it one or more letters and digits? (About is in small letters.)
func isAlgorithm(about string) bool {
	return about != "" && strings.Trim(about, lettersAndDigits) == ""
}

// small tells a text with small letters for great ones. The library's ways would take letters of other alphabets for those of a to z.
func small(text string) string {
	b := []byte(text)
	for i, c := range b {
		if c >= 'A' && c <= 'Z' {
			b[i] = c - 'A' + 'a'
		}
	}
	return string(b)
}
