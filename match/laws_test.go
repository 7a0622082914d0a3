package match_test

import (
	"math/rand"
	"regexp"
	"strings"
	"testing"

	"vouch/api"
	"vouch/match"
	"vouch/nfa"
	"vouch/pattern"
)

// pieces are some of a text's pieces: of each place a bit for each place at which a piece that begins there ends.
type pieces [16]uint16

// behind are the pieces that are cut into one of these and one of those, side by side.
func (p pieces) behind(q pieces) pieces {
	var all pieces
	for from, ends := range p {
		for to := range q {
			if ends>>to&1 == 1 {
				all[from] |= q[to]
			}
		}
	}
	return all
}

// or are the pieces that are among these or those.
func (p pieces) or(q pieces) pieces {
	for from := range q {
		p[from] |= q[from]
	}
	return p
}

// without are the pieces without bytes.
func without(text string) pieces {
	var all pieces
	for place := range len(text) + 1 {
		all[place] = 1 << place
	}
	return all
}

// described are the pieces of a text of at most 15 bytes that a tree describes, by the chapter's words.
func described(n api.Node, text string) pieces {
	var all pieces
	switch n.Kind {
	case 0:
		return without(text)
	case 1:
		for i := range len(text) {
			if n.Set[text[i]/64]&(1<<(text[i]%64)) != 0 {
				all[i] = 2 << i
			}
		}
	case 2:
		all[0] = 1
	case 3:
		all[len(text)] = 1 << len(text)
	case 4:
		all = without(text)
		for _, part := range n.Parts {
			all = all.behind(described(part, text))
		}
	case 5:
		for _, part := range n.Parts {
			all = all.or(described(part, text))
		}
	case 6:
		return repeated(described(n.Parts[0], text), without(text), n.Min, n.Max)
	}
	return all
}

// repeated are the pieces that are cut into from so many to so many of these. Of so short a text at most 15 of them have a byte: where there is no upper bound, 15 more than the lower one tell all.
func repeated(part, cut pieces, least, most int) pieces {
	var all pieces
	if most == -1 {
		most = least + 15
	}
	for count := 0; count <= most; count++ {
		if count >= least {
			all = all.or(cut)
		}
		cut = cut.behind(part)
	}
	return all
}

func set(s string) api.Node         { return api.Node{Kind: 1, Set: bytesOf(s)} }
func row(l ...api.Node) api.Node    { return api.Node{Kind: 4, Parts: l} }
func choice(l ...api.Node) api.Node { return api.Node{Kind: 5, Parts: l} }

func repeat(least, most int, n api.Node) api.Node {
	return api.Node{Kind: 6, Min: least, Max: most, Parts: []api.Node{n}}
}

// leaves are nodes that have no parts.
func leaves() []api.Node { return []api.Node{{}, set("a"), {Kind: 2}, {Kind: 3}} }

// over are the trees whose parts are of these.
func over(parts []api.Node) []api.Node {
	var list []api.Node
	for _, a := range parts {
		for _, x := range [][2]int{{0, -1}, {1, -1}, {2, -1}, {0, 0}, {0, 1}, {0, 2}, {1, 2}, {2, 2}, {2, 3}} {
			list = append(list, repeat(x[0], x[1], a))
		}
		for _, b := range parts {
			list = append(list, row(a, b), choice(a, b))
		}
	}
	return list
}

// drawnTree is a tree that may be, with at most so many levels.
func drawnTree(r *rand.Rand, levels int) api.Node {
	if levels == 0 || r.Intn(4) == 0 {
		return append(leaves(), set("b"), set("ab"), set("b"), set("a"))[r.Intn(8)]
	}
	kind := 4 + r.Intn(3)
	if kind == 6 {
		least := r.Intn(4)
		most := []int{-1, least, least + 1, least + r.Intn(3), 255}[r.Intn(5)]
		if r.Intn(20) == 0 {
			least, most = r.Intn(256), -1
		}
		return repeat(least, most, drawnTree(r, levels-1))
	}
	n := api.Node{Kind: kind}
	for range 2 + r.Intn(3) {
		n.Parts = append(n.Parts, drawnTree(r, levels-1))
	}
	return n
}

// lawful: the machine of a tree tells true just of these texts of which the tree describes a piece, in no more steps than it may; whether the tree has a machine.
func lawful(t *testing.T, n api.Node, texts []string) bool {
	t.Helper()
	m, e := nfa.Make(n)
	if e != api.OK {
		return false
	}
	for _, text := range texts {
		want := described(n, text) != pieces{}
		ok, steps, e := match.Has(m, text)
		if ok != want || e != api.OK {
			t.Fatalf("Has(the machine of %v, %q): %t, error %d, want %t", n, text, ok, e, want)
		}
		if steps < 1 || steps > len(m.States)*(len(text)+1) {
			t.Fatalf("Has(the machine of %v, %q): %d steps of %d states", n, text, steps, len(m.States))
		}
	}
	return true
}

// P12.4: all trees of up to two levels, over all short texts.
func TestAllTrees(t *testing.T) {
	ones := append(leaves(), set("b"))
	list := texts("ab", 3)
	for _, n := range ones {
		lawful(t, n, list)
	}
	twos := over(ones)
	for _, n := range twos {
		lawful(t, n, list)
	}
	for _, n := range over(twos) {
		lawful(t, n, list[:7])
	}
}

// P12.4: drawn trees over drawn texts.
func TestDrawnTrees(t *testing.T) {
	r := rand.New(rand.NewSource(124))
	good := 0
	for range 6000 {
		n := drawnTree(r, 1+r.Intn(4))
		var list []string
		for range 6 {
			list = append(list, drawnText(r, "abbac", 8))
		}
		if lawful(t, n, list) {
			good++
		}
	}
	if good < 4000 {
		t.Errorf("only %d trees have a machine", good)
	}
}

// P12.4: what a drawn tree's pattern finds, its pieces tell, and Go's own regular expressions too.
func TestLikeRegexp(t *testing.T) {
	r := rand.New(rand.NewSource(125))
	good := 0
	for range 6000 {
		n := drawnTree(r, 1+r.Intn(3))
		text, e := pattern.Print(n)
		if e != api.OK {
			continue
		}
		other, err := regexp.CompilePOSIX(text)
		if err != nil {
			continue // of more than 1000 repetitions in one another
		}
		for range 6 {
			subject := drawnText(r, "abbac", 8)
			ok, _, e := match.Find(text, subject)
			if e == 3 {
				break // its machine is too great
			}
			good++
			if e != api.OK || ok != other.MatchString(subject) || ok != (described(n, subject) != pieces{}) {
				t.Fatalf("Find(%q, %q): %t, error %d", text, subject, ok, e)
			}
		}
	}
	if good < 20000 {
		t.Errorf("only %d texts are asked", good)
	}
}

// P12.4: patterns that take others very long are gone over in as many steps as are promised.
func TestSteps(t *testing.T) {
	a := strings.Repeat("a", mostBytes-1)
	for _, text := range []string{"(a*)*b", "((a*)*)*b", "(a|a)*b", "(a|aa)+b", "(a+)+b$", "(.*.*.*)*b", "(a?){20}a{20}b", "^(a*)*b", "(()*)*b"} {
		m, e := match.Compile(text)
		if e != api.OK {
			t.Fatalf("Compile(%q): error %d", text, e)
		}
		for end, want := range map[string]bool{"a": false, "b": true} {
			ok, steps, e := match.Has(m, a+end)
			if ok != want || e != api.OK || steps < mostBytes || steps > len(m.States)*(mostBytes+1) {
				t.Errorf("Find(%q, a .. %s): %t, %d steps, error %d", text, end, ok, steps, e)
			}
		}
	}
	for _, n := range []int{0, 1, 100, 1000, mostBytes} {
		a := strings.Repeat("a", n)
		finds(t, "(a*)*b", a, false, 4*(n+1))
		finds(t, "^a*b", a, false, 4*(n+1))
		finds(t, "^a", strings.Repeat("b", n), false, n+2)
		finds(t, "b$", a, false, n+1)
		finds(t, "ab", a, false, 2*n+1)
	}
}
