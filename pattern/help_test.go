package pattern_test

import (
	"fmt"
	"math/rand"
	"regexp"
	"strings"
	"testing"

	"vouch/api"
	"vouch/pattern"
)

const (
	mostBytes = 1024 // of a pattern
	mostNodes = 2048 // of a tree
	mostOpen  = 64   // ( at once
	mostTimes = 255  // of an interval
)

// set is the node of the bytes of a text.
func set(s string) api.Node {
	n := api.Node{Kind: 1}
	for i := range len(s) {
		n.Set[s[i]/64] |= 1 << (s[i] % 64)
	}
	return n
}

// but is the node of all bytes that are not in a text.
func but(s string) api.Node {
	n := set(s)
	for i := range n.Set {
		n.Set[i] = ^n.Set[i]
	}
	return n
}

// bytesFrom is a text of all bytes from one to another.
func bytesFrom(first, last int) string {
	var b []byte
	for c := first; c <= last; c++ {
		b = append(b, byte(c))
	}
	return string(b)
}

func none() api.Node                { return api.Node{} }
func begin() api.Node               { return api.Node{Kind: 2} }
func end() api.Node                 { return api.Node{Kind: 3} }
func row(l ...api.Node) api.Node    { return api.Node{Kind: 4, Parts: l} }
func choice(l ...api.Node) api.Node { return api.Node{Kind: 5, Parts: l} }

func repeat(least, most int, n api.Node) api.Node {
	return api.Node{Kind: 6, Min: least, Max: most, Parts: []api.Node{n}}
}

// many is a list of the same leaf, so many times.
func many(n int, leaf api.Node) []api.Node {
	list := make([]api.Node, n)
	for i := range list {
		list[i] = leaf
	}
	return list
}

// same: two trees are the same; nil and empty lists are.
func same(a, b api.Node) bool {
	if a.Kind != b.Kind || a.Set != b.Set || a.Min != b.Min || a.Max != b.Max || len(a.Parts) != len(b.Parts) {
		return false
	}
	for i := range a.Parts {
		if !same(a.Parts[i], b.Parts[i]) {
			return false
		}
	}
	return true
}

// shown is a tree, shortly.
func shown(n api.Node) string {
	list := []string{}
	for _, part := range n.Parts {
		list = append(list, shown(part))
	}
	return fmt.Sprintf("%d %x %d %d (%s)", n.Kind, n.Set, n.Min, n.Max, strings.Join(list, ", "))
}

// all tells all texts of so many pieces.
func all(pieces []string, n int, yield func(string)) {
	if n == 0 {
		yield("")
		return
	}
	for _, piece := range pieces {
		all(pieces, n-1, func(s string) { yield(piece + s) })
	}
}

// letters are the bytes of a text, each as a text.
func letters(s string) []string { return strings.Split(s, "") }

// drawnFrom is a text of so many pieces.
func drawnFrom(r *rand.Rand, pieces []string, n int) string {
	var b strings.Builder
	for range n {
		b.WriteString(pieces[r.Intn(len(pieces))])
	}
	return b.String()
}

// level is what was read of a pattern: its alternatives, as lists of pieces, the last one open.
type level [][]api.Node

// tree is the tree of a pattern of which all is read.
func (l level) tree() api.Node {
	var list []api.Node
	for _, pieces := range l {
		list = append(list, of(4, pieces))
	}
	return of(5, list)
}

func of(kind int, list []api.Node) api.Node {
	if len(list) == 0 {
		return none()
	}
	if len(list) == 1 {
		return list[0]
	}
	return api.Node{Kind: kind, Parts: list}
}

var intervalForm = regexp.MustCompile(`^\{([0-9]{1,3})(,([0-9]{1,3})?)?\}`)

// parseByWords is what the chapter's words say of Parse: piece by piece, over a stack of the patterns that are open.
func parseByWords(s string) (api.Node, api.Errno) {
	if len(s) > mostBytes {
		return none(), api.ErrLimit
	}
	stack := []level{{nil}}
	for len(s) > 0 {
		top := stack[len(stack)-1]
		pieces := &top[len(top)-1]
		size := 1
		switch c := s[0]; c {
		case '|':
			stack[len(stack)-1] = append(top, nil)
		case '(':
			if len(stack) > mostOpen {
				return none(), api.ErrLimit
			}
			stack = append(stack, level{nil})
		case ')':
			if len(stack) == 1 {
				return none(), api.ErrParen
			}
			stack = stack[:len(stack)-1]
			outer := stack[len(stack)-1]
			outer[len(outer)-1] = append(outer[len(outer)-1], top.tree())
		case '*', '+', '?', '{':
			if len(*pieces) == 0 {
				return none(), api.ErrRepeat
			}
			least, most, n := timesByWords(s)
			if n == 0 {
				return none(), api.ErrInterval
			}
			size = n
			last := &(*pieces)[len(*pieces)-1]
			*last = repeat(least, most, *last)
		default:
			n, length, e := atomByWords(s)
			if e != api.OK {
				return none(), e
			}
			size = length
			*pieces = append(*pieces, n)
		}
		s = s[size:]
	}
	if len(stack) > 1 {
		return none(), api.ErrParen
	}
	return stack[0].tree(), api.OK
}

// timesByWords is the repetition that begins a text, and its length; 0, if none does.
func timesByWords(s string) (int, int, int) {
	switch s[0] {
	case '*':
		return 0, -1, 1
	case '+':
		return 1, -1, 1
	case '?':
		return 0, 1, 1
	}
	found := intervalForm.FindStringSubmatch(s)
	if found == nil {
		return 0, 0, 0
	}
	var least, most int
	fmt.Sscanf(found[1], "%d", &least)
	most = least
	if found[2] == "," {
		most = -1
	} else if found[2] != "" {
		fmt.Sscanf(found[3], "%d", &most)
	}
	if least > mostTimes || most > mostTimes || most >= 0 && most < least {
		return 0, 0, 0
	}
	return least, most, len(found[0])
}

// atomByWords is the atom that begins a text, if that is no group, and its length.
func atomByWords(s string) (api.Node, int, api.Errno) {
	switch {
	case s[0] == '.':
		return but(""), 1, api.OK
	case s[0] == '^':
		return begin(), 1, api.OK
	case s[0] == '$':
		return end(), 1, api.OK
	case s == `\`:
		return none(), 0, api.ErrEscape
	case s[0] == '\\':
		return set(s[1:2]), 2, api.OK
	case s[0] == '[':
		return bracketByWords(s)
	}
	return set(s[:1]), 1, api.OK
}

var (
	classForm   = regexp.MustCompile(`(?s)^\[:(.*?):\]`)
	classByWord = map[string]string{}
)

func init() {
	upper, lower, digit := bytesFrom(0x41, 0x5A), bytesFrom(0x61, 0x7A), bytesFrom('0', '9')
	classByWord = map[string]string{
		"alpha": upper + lower, "upper": upper, "lower": lower, "digit": digit, "alnum": upper + lower + digit,
		"xdigit": digit + "ABCDEFabcdef", "space": bytesFrom(0x09, 0x0D) + " ", "blank": "\t ", "cntrl": bytesFrom(0, 0x1F) + "\x7F",
		"graph": bytesFrom(0x21, 0x7E), "print": bytesFrom(0x20, 0x7E), "punct": "!\"#$%&'()*+,-./:;<=>?@[\\]^_`{|}~",
	}
}

// bracketByWords is the bracket that begins a text, and its length.
func bracketByWords(s string) (api.Node, int, api.Errno) {
	at := 1
	outside := len(s) > 1 && s[1] == '^'
	if outside {
		at++
	}
	list := ""
	for from := at; ; {
		rest := s[at:]
		if rest == "" {
			return none(), 0, api.ErrBracket
		}
		if rest[0] == ']' && at > from {
			at++
			break
		}
		item, length, e := itemByWords(rest)
		if e != api.OK {
			return none(), 0, e
		}
		list += item
		at += length
	}
	if outside {
		return but(list), at, api.OK
	}
	return set(list), at, api.OK
}

// itemByWords is the item that begins a text: its bytes, and its length.
func itemByWords(s string) (string, int, api.Errno) {
	if strings.HasPrefix(s, "[:") {
		found := classForm.FindStringSubmatch(s)
		if found == nil {
			return "", 0, api.ErrBracket
		}
		list, ok := classByWord[found[1]]
		if !ok {
			return "", 0, api.ErrClass
		}
		return list, len(found[0]), api.OK
	}
	if strings.HasPrefix(s, "[=") {
		if len(s) < 5 || s[3:5] != "=]" {
			return "", 0, api.ErrBracket
		}
		return s[2:3], 5, api.OK
	}
	first, length, ok := memberByWords(s)
	if !ok {
		return "", 0, api.ErrBracket
	}
	rest := s[length:]
	if len(rest) == 0 || rest[0] != '-' || len(rest) > 1 && rest[1] == ']' {
		return string([]byte{first}), length, api.OK
	}
	last, more, ok := memberByWords(rest[1:])
	if !ok {
		return "", 0, api.ErrBracket
	}
	if last < first {
		return "", 0, api.ErrRange
	}
	return bytesFrom(int(first), int(last)), length + 1 + more, api.OK
}

// memberByWords is the member that begins a text, and its length; false, if none does.
func memberByWords(s string) (byte, int, bool) {
	switch {
	case s == "" || strings.HasPrefix(s, "[:") || strings.HasPrefix(s, "[="):
		return 0, 0, false
	case !strings.HasPrefix(s, "[."):
		return s[0], 1, true
	case len(s) < 5 || s[3:5] != ".]":
		return 0, 0, false
	}
	return s[2], 5, true
}

// nodes is how many nodes a tree has that does not hold itself.
func nodes(n api.Node) int {
	count := 1
	for _, part := range n.Parts {
		count += nodes(part)
	}
	return count
}

// holds holds Parse against the chapter's words, and tells its error.
func holds(t *testing.T, s string) api.Errno {
	t.Helper()
	want, e := parseByWords(s)
	tells(t, s, want, e)
	return e
}

// tells: Parse tells just this tree, or just this error; what it tells may be.
func tells(t *testing.T, s string, want api.Node, e api.Errno) {
	t.Helper()
	n, err := pattern.Parse(s)
	if err != e || !same(n, want) {
		t.Fatalf("Parse(%.200q of %d bytes): %.400s, error %d, want %.400s, error %d", s, len(s), shown(n), err, shown(want), e)
	}
	if e == api.OK && (pattern.Check(n) != api.OK || nodes(n) > mostNodes) {
		t.Fatalf("Parse(%.200q of %d bytes): Check tells error %d of the tree of %d nodes", s, len(s), pattern.Check(n), nodes(n))
	}
}

// reads: Parse reads the text as this tree.
func reads(t *testing.T, s string, want api.Node) {
	t.Helper()
	tells(t, s, want, api.OK)
}

// refuses: Parse answers this error, and nothing beside it.
func refuses(t *testing.T, e api.Errno, texts ...string) {
	t.Helper()
	for _, s := range texts {
		tells(t, s, none(), e)
	}
}

// prints: Print tells just this text, and Parse reads it as the same tree.
func prints(t *testing.T, n api.Node, want string) {
	t.Helper()
	if s, e := pattern.Print(n); e != api.OK || s != want || pattern.Check(n) != api.OK {
		t.Fatalf("Print(%.400s): %.200q, error %d, Check's error %d, want %.200q", shown(n), s, e, pattern.Check(n), want)
	}
	reads(t, want, n)
}

// tooLong: the tree may be, and Print refuses it.
func tooLong(t *testing.T, n api.Node) {
	t.Helper()
	if s, e := pattern.Print(n); e != api.ErrLimit || s != "" || pattern.Check(n) != api.OK {
		t.Fatalf("Print(%.400s): %.200q, error %d, Check's error %d", shown(n), s, e, pattern.Check(n))
	}
}

// isRefused: Check and Print answer this error, and Print nothing beside it.
func isRefused(t *testing.T, what string, n api.Node, want api.Errno) {
	t.Helper()
	if e := pattern.Check(n); e != want {
		t.Fatalf("%s: Check tells error %d, want %d", what, e, want)
	}
	if s, e := pattern.Print(n); s != "" || e != want {
		t.Fatalf("%s: Print tells %.200q, error %d, want %d", what, s, e, want)
	}
}
