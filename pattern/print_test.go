package pattern_test

import (
	"bytes"
	"fmt"
	"math/rand"
	"regexp"
	"strings"
	"testing"

	"vouch/api"
	"vouch/pattern"
)

// The chapter's examples of Print.
func TestExamplesOfPrint(t *testing.T) {
	a, b := set("a"), set("b")
	prints(t, repeat(0, -1, row(a, b)), "(ab)*")
	prints(t, set("]abc"), "[[.].]a-c]")
	prints(t, set("*"), `\*`)
	prints(t, choice(none(), a), "|a")
}

// P10.3: the texts of the kinds, and where ( and ) stand.
func TestKinds(t *testing.T) {
	a, b, c := set("a"), set("b"), set("c")
	prints(t, none(), "")
	prints(t, begin(), "^")
	prints(t, end(), "$")
	prints(t, row(begin(), a, end()), "^a$")
	prints(t, row(a, none()), "a()")
	prints(t, row(none(), none()), "()()")
	prints(t, row(row(a, b), c), "(ab)c")
	prints(t, row(a, row(b, c)), "a(bc)")
	prints(t, row(choice(a, b), c), "(a|b)c")
	prints(t, row(a, choice(none(), none())), "a(|)")
	prints(t, row(repeat(0, -1, a), repeat(1, -1, b)), "a*b+")
	prints(t, choice(none(), none()), "|")
	prints(t, choice(none(), none(), none()), "||")
	prints(t, choice(a, none()), "a|")
	prints(t, choice(row(a, b), c), "ab|c")
	prints(t, choice(a, row(b, c), begin(), end(), repeat(0, 1, a)), "a|bc|^|$|a?")
	prints(t, choice(choice(a, b), c), "(a|b)|c")
	prints(t, choice(a, choice(b, c)), "a|(b|c)")
	prints(t, choice(a, row(choice(b, c), a)), "a|(b|c)a")
	prints(t, choice(choice(none(), none()), none()), "(|)|")
	prints(t, repeat(0, 1, none()), "()?")
	prints(t, repeat(0, -1, begin()), "^*")
	prints(t, repeat(0, -1, end()), "$*")
	prints(t, repeat(0, -1, choice(a, b)), "(a|b)*")
	prints(t, repeat(1, -1, row(a, b)), "(ab)+")
	prints(t, repeat(0, 1, repeat(0, -1, a)), "a*?")
	prints(t, repeat(3, -1, repeat(2, 2, a)), "a{2}{3,}")
	prints(t, repeat(0, -1, but("")), ".*")
	prints(t, repeat(0, -1, set("*")), `\**`)
	prints(t, repeat(0, -1, set("ab")), "[ab]*")
	prints(t, row(a, set("{"), set("}")), `a\{}`)
}

// P10.3: the signs of every repetition.
func TestSigns(t *testing.T) {
	for least := range 256 {
		for most := -1; most < 256; most++ {
			if most >= 0 && most < least {
				continue
			}
			want := fmt.Sprintf("{%d,%d}", least, most)
			switch {
			case least == 0 && most == -1:
				want = "*"
			case least == 1 && most == -1:
				want = "+"
			case least == 0 && most == 1:
				want = "?"
			case least == most:
				want = fmt.Sprintf("{%d}", least)
			case most == -1:
				want = fmt.Sprintf("{%d,}", least)
			}
			prints(t, repeat(least, most, set("a")), "a"+want)
		}
	}
}

// P10.3: sets of one byte, of all but one, and of two and three bytes, wherever they stand.
func TestSmallSets(t *testing.T) {
	prints(t, but(""), ".")
	prints(t, set(""), "[^\x00-\xff]")
	for c := range 256 {
		s := string([]byte{byte(c)})
		if strings.Contains("\\^.[$()|*+?{", s) {
			prints(t, set(s), `\`+s)
		} else {
			prints(t, set(s), s)
		}
		prints(t, but(s), setByWords(but(s)))
		for other := range c {
			o := string([]byte{byte(other)})
			prints(t, set(s+o), "["+inside(o)+inside(s)+"]")
			prints(t, but(s+o), setByWords(but(s+o)))
			prints(t, set(bytesFrom(other, c)), setByWords(set(bytesFrom(other, c))))
		}
	}
	prints(t, set("ab"), "[ab]")
	prints(t, set("abc"), "[a-c]")
	prints(t, set("abcd"), "[a-d]")
	prints(t, set("acd"), "[acd]")
	prints(t, set("abd"), "[abd]")
	prints(t, set("ac"), "[ac]")
	prints(t, set("dabef"), "[abd-f]")
	prints(t, set("-^"), "[[.-.][.^.]]")
	prints(t, set("[]"), "[[.[.][.].]]")
	prints(t, set("[\\]"), "[[.[.]-[.].]]")
	prints(t, set("\\]^"), `[\-[.^.]]`)
	prints(t, set("^_`"), "[[.^.]-`]")
	prints(t, set("+,-"), "[+-[.-.]]")
	prints(t, set("-./"), "[[.-.]-/]")
	prints(t, set("^a"), "[[.^.]a]")
	prints(t, set(":=."), "[.:=]")
	prints(t, set("\x00\xff"), "[\x00\xff]")
	prints(t, but("\x00"), "[\x01-\xff]")
	prints(t, but("\xff"), "[\x00-\xfe]")
	prints(t, but("\x80"), "[\x00-\x7f\x81-\xff]")
	prints(t, set(bytesFrom(0xFD, 0xFF)), "[\xfd-\xff]")
	prints(t, set(bytesFrom(0, 2)), "[\x00-\x02]")
	prints(t, set(bytesFrom(0x3E, 0x41)), "[>-A]")
}

// inside is a byte in a bracket, by the chapter's words.
func inside(s string) string {
	if strings.Contains("][^-", s) {
		return "[." + s + ".]"
	}
	return s
}

var (
	runForm     = regexp.MustCompile("1+")
	escapedForm = regexp.MustCompile(`[\\^.\[$()|*+?{]`)
)

// setByWords is what the chapter's words say of a set: its runs are looked for in a text that tells of each byte whether it is in it.
func setByWords(n api.Node) string {
	told := make([]byte, 256)
	for c := range told {
		told[c] = '0' + byte(n.Set[c/64]>>(c%64)&1)
	}
	runs := ""
	for _, run := range runForm.FindAllIndex(told, -1) {
		first, last := bytesFrom(run[0], run[0]), bytesFrom(run[1]-1, run[1]-1)
		switch run[1] - run[0] {
		case 256:
			return "."
		case 1:
			if bytes.Count(told, []byte("1")) == 1 {
				return escapedForm.ReplaceAllString(first, `\$0`)
			}
			runs += inside(first)
		case 2:
			runs += inside(first) + inside(last)
		default:
			runs += inside(first) + "-" + inside(last)
		}
	}
	if runs == "" {
		return "[^\x00-\xff]"
	}
	return "[" + runs + "]"
}

// printByWords is what the chapter's words say of Print's text, of a tree that may be.
func printByWords(n api.Node) string {
	list := []string{}
	for _, part := range n.Parts {
		s := printByWords(part)
		if part.Kind == 5 || n.Kind != 5 && (part.Kind == 0 || part.Kind == 4) {
			s = "(" + s + ")"
		}
		list = append(list, s)
	}
	switch n.Kind {
	case 1:
		return setByWords(n)
	case 2:
		return "^"
	case 3:
		return "$"
	case 4:
		return strings.Join(list, "")
	case 5:
		return strings.Join(list, "|")
	case 6:
		s := fmt.Sprintf("{%d,%d}", n.Min, n.Max)
		s = strings.Replace(s, fmt.Sprintf("{%d,%d}", n.Min, n.Min), fmt.Sprintf("{%d}", n.Min), 1)
		s = strings.Replace(s, ",-1}", ",}", 1)
		return list[0] + strings.NewReplacer("{0,}", "*", "{1,}", "+", "{0,1}", "?").Replace(s)
	}
	return ""
}

// opens is how many ( are open at once in Print's text, by the tree.
func opens(n api.Node) int {
	deepest := 0
	for _, part := range n.Parts {
		open := opens(part)
		if part.Kind == 5 || n.Kind != 5 && (part.Kind == 0 || part.Kind == 4) {
			open++
		}
		deepest = max(deepest, open)
	}
	return deepest
}

// drawnTree is a tree that may be, with at most so many levels.
func drawnTree(r *rand.Rand, levels int) api.Node {
	if levels == 0 || r.Intn(4) == 0 {
		return drawnLeaf(r)
	}
	kind := 4 + r.Intn(3)
	if kind == 6 {
		least := r.Intn(4)
		if r.Intn(8) == 0 {
			least = r.Intn(256)
		}
		most := least + r.Intn(3)
		if r.Intn(2) == 0 || most > 255 {
			most = -1
		}
		return repeat(least, most, drawnTree(r, levels-1))
	}
	n := api.Node{Kind: kind}
	for range 2 + r.Intn(3) {
		n.Parts = append(n.Parts, drawnTree(r, levels-1))
	}
	return n
}

func drawnLeaf(r *rand.Rand) api.Node {
	switch r.Intn(8) {
	case 0:
		return none()
	case 1:
		return begin()
	case 2:
		return end()
	case 3:
		n := api.Node{Kind: 1}
		for i := range n.Set {
			n.Set[i] = r.Uint64() & r.Uint64() & r.Uint64() & r.Uint64()
		}
		return n
	case 4:
		first := r.Intn(256)
		return set(bytesFrom(first, first+r.Intn(256-first)))
	case 5:
		return but(drawnFrom(r, letters("]^-[a"), r.Intn(3)))
	}
	return set(drawnFrom(r, letters(`]^-[a.*()|{}\$?+`), 1+r.Intn(2)*r.Intn(3)))
}

// P10.3: drawn trees, against the chapter's words.
func TestDrawnTrees(t *testing.T) {
	r := rand.New(rand.NewSource(103))
	count := map[bool]int{}
	for range 8000 {
		n := drawnTree(r, r.Intn(8))
		want := printByWords(n)
		long := len(want) > mostBytes || opens(n) > mostOpen
		count[long]++
		if long && nodes(n) <= mostNodes {
			tooLong(t, n)
		} else if !long {
			prints(t, n, want)
		}
	}
	if count[true] < 100 || count[false] < 1000 {
		t.Errorf("%v", count)
	}
}

// P10.3: a text of 1024 bytes is told, of one more not.
func TestLongTexts(t *testing.T) {
	a := set("a")
	prints(t, row(many(1024, a)...), strings.Repeat("a", 1024))
	tooLong(t, row(many(1025, a)...))
	prints(t, row(many(512, none())...), strings.Repeat("()", 512))
	tooLong(t, row(many(513, none())...))
	prints(t, choice(many(1025, none())...), strings.Repeat("|", 1024))
	tooLong(t, choice(many(1026, none())...))
	prints(t, row(many(512, set("*"))...), strings.Repeat(`\*`, 512))
	tooLong(t, row(append(many(512, set("*")), a)...))
	prints(t, row(append(many(204, set("abc")), many(4, a)...)...), strings.Repeat("[a-c]", 204)+"aaaa")
	tooLong(t, row(append(many(204, set("abc")), many(5, a)...)...))
	tooLong(t, row(append(many(204, set("abc")), repeat(2, 2, set("a")), a)...))
	prints(t, repeat(0, -1, row(many(1021, a)...)), "("+strings.Repeat("a", 1021)+")*")
	tooLong(t, repeat(0, -1, row(many(1022, a)...)))
	tooLong(t, repeat(10, 20, row(many(1020, a)...)))
	tooLong(t, row(many(2047, set(setOfHalf))...))
	long := a
	for range 1023 {
		long = repeat(0, -1, long)
	}
	prints(t, long, "a"+strings.Repeat("*", 1023))
	tooLong(t, repeat(0, -1, long))
}

// setOfHalf is every second byte.
var setOfHalf = func() string {
	var b []byte
	for c := 0; c < 256; c += 2 {
		b = append(b, byte(c))
	}
	return string(b)
}()

// P10.3: 64 ( are open at once, and no more; those that are bytes of a set count for nothing.
func TestDeepTexts(t *testing.T) {
	a := set("a")
	for what, wrap := range map[string]func(n api.Node) api.Node{
		"a|(..)":  func(n api.Node) api.Node { return choice(a, n) },
		"(..)|a":  func(n api.Node) api.Node { return choice(n, a) },
		"|(..)|a": func(n api.Node) api.Node { return choice(none(), n, a) },
		"a(..)":   func(n api.Node) api.Node { return row(a, n) },
		"(..)*":   func(n api.Node) api.Node { return row(repeat(0, -1, n), a) },
		"(..)()":  func(n api.Node) api.Node { return row(n, none()) },
	} {
		n := wrap(a)
		for opens(n) < 64 {
			n = wrap(n)
		}
		if opens(n) != 64 {
			t.Fatalf("%s: %d open", what, opens(n))
		}
		prints(t, n, printByWords(n))
		tooLong(t, wrap(n))
		tooLong(t, choice(a, row(a, wrap(n), begin())))
	}
	prints(t, row(many(70, set("("))...), strings.Repeat(`\(`, 70))
	prints(t, row(many(70, set("()"))...), strings.Repeat("[()]", 70))
	prints(t, row(many(300, none())...), strings.Repeat("()", 300))
	deep := row(set("("), set("(a"), none())
	for opens(deep) < 64 {
		deep = choice(row(set("("), none()), deep)
	}
	prints(t, deep, printByWords(deep))
	tooLong(t, choice(set("("), deep))
	if e := pattern.Check(chainOf(2048)); e != api.OK {
		t.Errorf("2048 nodes in one another: error %d", e)
	}
	tooLong(t, chainOf(2048))
}
