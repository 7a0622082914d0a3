package pattern_test

import (
	"math/rand"
	"regexp"
	"strings"
	"testing"

	"vouch/api"
)

// classNames are the names of all classes.
func classNames() []string {
	return []string{"alpha", "upper", "lower", "digit", "alnum", "xdigit", "space", "blank", "cntrl", "graph", "print", "punct"}
}

// P10.2: the classes, against the chapter's words and against the library's own.
func TestClasses(t *testing.T) {
	for _, name := range classNames() {
		want := set(classByWord[name])
		reads(t, "[[:"+name+":]]", want)
		reads(t, "[^[:"+name+":]]", but(classByWord[name]))
		library := regexp.MustCompile("^[[:" + name + ":]]$")
		for c := range 256 {
			if got := want.Set[c/64]>>(c%64)&1 == 1; got != library.MatchString(string(rune(c))) {
				t.Errorf("%s: byte %02x: %t", name, c, got)
			}
		}
		for _, other := range classNames() {
			reads(t, "[[:"+name+":][:"+other+":]]", set(classByWord[name]+classByWord[other]))
		}
		reads(t, "[x[:"+name+":]-\xff]", set(classByWord[name]+"x-\xff"))
		reads(t, "[[:"+name+":]-]", set(classByWord[name]+"-"))
		reads(t, "[[:"+name+":]--/]", set(classByWord[name]+"-./"))
		refuses(t, api.ErrBracket, "[[:"+name+":]", "[[:"+name+":", "[[:"+name+"]", "[[:"+name, "[a-[:"+name+":]]", "[[:"+name+": ]", "[[:"+name+"]:")
		refuses(t, api.ErrClass, "[[:"+name[2:]+":]]", "[[:"+name[:len(name)-1]+":]]", "[[:"+strings.ToUpper(name)+":]]", "[[: "+name+":]]", "[[:"+name+" :]]", "[[:"+name+"::]]", "[[::"+name+":]]", "[[:^"+name+":]]", "[[:"+name+name+":]]", "[[:"+name+"\x00:]]", "[[:"+name+".]:]]")
	}
}

// P10.2: names of no class; a name goes up to the next :], wherever that stands.
func TestNoClasses(t *testing.T) {
	for _, name := range []string{"", ":", "::", "]", "foo", "word", "ascii", "alph", "alphaa", "Alpha", "ALPHA", "lphaa", "a", "]a", "a]b", "alpha]", "[:alpha", "=alpha=", ".a.", "-", "a-z", "\x00", "\xff", "digit,", " ", "\n", "digit\u0301"} {
		refuses(t, api.ErrClass, "[[:"+name+":]]", "[^[:"+name+":]]", "[a[:"+name+":]b]", "[[:"+name+":]", "[[:digit:][:"+name+":]]", "([[:"+name+":]", "[[:"+name+":]:]]")
	}
	refuses(t, api.ErrClass, "[[:a]*(b)|c:]", "[[::]]", "[[:]:]]", "[[::]")
	refuses(t, api.ErrBracket, "[[:", "[[:]", "[[:]]", "[[:a", "[[::", "[[:alpha]", "[[:alpha:", "[a[:]", "[^[:]", "[[:]: ]")
}

// P10.2: the first ] of a bracket is an item, also behind ^; it may begin a range.
func TestFirstEnd(t *testing.T) {
	reads(t, "[]]", set("]"))
	reads(t, "[^]]", but("]"))
	reads(t, "[]]]", row(set("]"), set("]")))
	reads(t, "[]-a]", set("]^_`a"))
	reads(t, "[^]-a]", but("]^_`a"))
	reads(t, "[]-]", set("]-"))
	reads(t, "[^]-]", but("]-"))
	reads(t, "[]^]", set("]^"))
	reads(t, "[a]]", row(set("a"), set("]")))
	reads(t, "[a^]", set("a^"))
	reads(t, "[^^]", but("^"))
	reads(t, "[^^^]", but("^"))
	reads(t, "[^a]^]", row(but("a"), begin(), set("]")))
	reads(t, "[][]", set("]["))
	reads(t, "[^][]", but("]["))
	refuses(t, api.ErrBracket, "[", "[^", "[]", "[^]", "[]-", "[^]-", "[]a", "[^]^", "[^^")
	refuses(t, api.ErrRange, "[]-[.[.]]", "[]-\x00]", "[^]-\\]")
}

// P10.2: where a - is a byte, and where it makes a range.
func TestRanges(t *testing.T) {
	reads(t, "[-]", set("-"))
	reads(t, "[--]", set("-"))
	reads(t, "[---]", set("-"))
	reads(t, "[----]", set("-"))
	reads(t, "[--0]", set("-./0"))
	reads(t, "[+--]", set("+,-"))
	reads(t, "[+---]", set("+,-"))
	reads(t, "[-a]", set("-a"))
	reads(t, "[a-]", set("a-"))
	reads(t, "[^-]", but("-"))
	reads(t, "[^--]", but("-"))
	reads(t, "[^a-]", but("a-"))
	reads(t, "[^a-c]", but("abc"))
	reads(t, "[a-a]", set("a"))
	reads(t, "[a-c-e]", set("abc-e"))
	reads(t, "[a-c-e-g]", set("abc-efg"))
	reads(t, "[a-ce-g]", set("abcefg"))
	reads(t, "[a-c-]", set("abc-"))
	reads(t, "[a-]]", row(set("a-"), set("]")))
	reads(t, "[\x00-\xff]", but(""))
	reads(t, "[^\x00-\xff]", set(""))
	reads(t, "[^\x01-\xfe]", set("\x00\xff"))
	reads(t, "[$-&]", set("$%&"))
	reads(t, "[*-,]", set("*+,"))
	reads(t, `[\-a]`, set(`\]^_`+"`a"))
	reads(t, "[[=a=]-c]", set("a-c"))
	reads(t, "[[=a=]-]", set("a-"))
	reads(t, "[[.a.]-c]", set("abc"))
	reads(t, "[a-[.c.]]", set("abc"))
	reads(t, "[A-[.].]]", set(bytesFrom('A', ']')))
	reads(t, "[[.a.]-]", set("a-"))
	reads(t, "[a-c[:digit:]d-f]", set("abc0123456789def"))
	refuses(t, api.ErrBracket, "[a-", "[a-c", "[a-c-", "[-", "[--", "[---", "[a-[:", "[a-[=", "[a-[:x", "[a-[=b=]]", "[a-[:alpha:]]", "[z-[:x:]]", "[z-[=a=]]", "[a-[.", "[a-[.b", "[a-[.b.", "[a-[.b.x]", "[z-[.ab.]]", "[a-[..]]", "[[.a.]-[:x:]]")
	refuses(t, api.ErrRange, "[b-a]", "[b-a", "[a--]", "[a--b]", "[b-[.a.]]", "[b-[.a.]", "[\xff-\x00]", "[\x80-\x7f]", "[^b-a]", "[xb-a]", "[a-cb-a", "[b-a[:foo:]]", "([b-a", "[a-[]")
	for first := range 256 {
		for _, last := range []int{0, first - 1, first, first + 1, 127, 128, 255} {
			if last < 0 || last > 255 {
				continue
			}
			s := "[[." + string([]byte{byte(first)}) + ".]-[." + string([]byte{byte(last)}) + ".]"
			if last < first {
				refuses(t, api.ErrRange, s+"]", s)
				continue
			}
			reads(t, s+"]", set(bytesFrom(first, last)))
			refuses(t, api.ErrBracket, s)
		}
	}
}

// P10.2: a [ in a bracket is a byte where it begins nothing else.
func TestOpeningInside(t *testing.T) {
	reads(t, "[[]", set("["))
	reads(t, "[[a]", set("[a"))
	reads(t, "[a[]", set("a["))
	reads(t, "[[[]", set("["))
	reads(t, "[[[:digit:]]", set("[0123456789"))
	reads(t, "[[-a]", set("[\\]^_`a"))
	reads(t, "[A-[]", set(bytesFrom('A', '[')))
	reads(t, "[A-[a]", set(bytesFrom('A', '[')+"a"))
	reads(t, "[A-[[]", set(bytesFrom('A', '[')))
	reads(t, "[[-[]", set("["))
	reads(t, "[^[]", but("["))
	reads(t, "[:alpha:]", set(":alph"))
	reads(t, "[=a=]", set("=a"))
	reads(t, "[.a.]", set(".a"))
	reads(t, "[.]", set("."))
	reads(t, "[^:a:]", but(":a"))
	reads(t, "[[...]]", set("."))
	reads(t, "[[===]]", set("="))
	reads(t, "[[.].]]", set("]"))
	reads(t, "[[=]=]]", set("]"))
	reads(t, "[[.[.][=[=]]", set("["))
	reads(t, "[()|*+?{}.^$]", set("()|*+?{}.^$"))
	reads(t, `[\]\]`, row(set(`\`), set("]")))
	refuses(t, api.ErrBracket, "[[", "[[.", "[[=", "[[..]]", "[[==]]", "[[.a]]", "[[=a]]", "[[.a.", "[[=a=", "[[.a=]]", "[[=a.]]", "[[.ab.]]", "[[=ab=]]", "[[.]]", "[[=]]", "[[.a.]", "[[=a=]", "[[.a. ]]", "[[.a:]]", "[[=a:]]", "[a[.]", "[a[=]", "[[....]]", "[[====]]", "[[.é.]]")
}

// P10.2: all short brackets of what matters in them.
func TestFewItems(t *testing.T) {
	count := map[api.Errno]int{}
	for n := range 7 {
		all(letters("[]^-.=a"), n, func(s string) { count[holds(t, "["+s)]++ })
	}
	for n := range 6 {
		all([]string{"[", "]", "-", "a", "0", ":", ".]", "[.", "[=b=]", "[.-.]", "[:digit:]"}, n, func(s string) { count[holds(t, "["+s+"]")]++ })
		all([]string{"^", "]", "-", ",", "/", "[:", ":]", "upper", "=]", "[="}, n, func(s string) { count[holds(t, "["+s)]++ })
	}
	for _, e := range []api.Errno{api.OK, api.ErrBracket, api.ErrRange, api.ErrClass} {
		if count[e] < 500 {
			t.Errorf("error %d came %d times", e, count[e])
		}
	}
}

// P10.2: drawn brackets, long ones too, of all bytes.
func TestDrawnBrackets(t *testing.T) {
	r := rand.New(rand.NewSource(102))
	count := map[api.Errno]int{}
	pieces := []string{"a", "z", "-", "-", "[", "]", "^", "[.a.]", "[.-.]", "[.].]", "[=z=]", "[:alpha:]", "[:blank:]", "[:x:]", "[:", ":]", "\x00", "\xff", "0-9", "a-f", "\x80-\xff", " -~", "\\", "\n"}
	for range 60000 {
		count[holds(t, "["+drawnFrom(r, pieces, r.Intn(8))+"]")]++
	}
	harmless := []string{"a", "b-y", "0-9", "[.-.]", "[=]=]", "[:punct:]", "[:cntrl:]", "\xf0-\xff", "^", "[.[.]-[.^.]"}
	for range 3000 {
		count[holds(t, "[^"+drawnFrom(r, harmless, 1+r.Intn(300))+"]")]++
	}
	for range 20000 {
		b := make([]byte, r.Intn(20))
		r.Read(b)
		count[holds(t, "["+string(b)+"]")]++
	}
	for _, e := range []api.Errno{api.OK, api.ErrBracket, api.ErrRange, api.ErrClass, api.ErrLimit} {
		if count[e] < 100 {
			t.Errorf("error %d came %d times", e, count[e])
		}
	}
}
