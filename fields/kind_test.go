package fields_test

import (
	"strings"
	"testing"

	"vouch/fields"
)

// names: Kind tells just this of a name, and Split takes a line that it begins just if it names a kind.
func names(t *testing.T, name string, want uint8, known bool) {
	t.Helper()
	if kind, ok := fields.Kind(name); kind != want || ok != known {
		t.Fatalf("Kind(%.80q of %d bytes): %d, %t, want %d, %t", name, len(name), kind, ok, want, known)
	}
	if list, _, _ := fields.Split(name + ":\nAuthorizer:"); want != 2 && want != 7 && !strings.Contains(name, ":") && (len(list) == 2) != known {
		t.Fatalf("%.80q and a colon: %v", name, list)
	}
}

// P13.4: the chapter's examples.
func TestKindExamples(t *testing.T) {
	names(t, "conditions", 5, true)
	names(t, "Condition", 0, false)
	if a, b := fields.Name(4), fields.Name(0); a != "Local-Constants" || b != "" {
		t.Errorf("Name: %q and %q", a, b)
	}
}

// P13.4: a name in all ways to write its letters.
func TestCasings(t *testing.T) {
	for kind, name := range fieldNames() {
		if kind > 0 {
			casings(name, func(s string) { names(t, s, uint8(kind), true) })
		}
	}
}

// P13.4: Name tells what Kind names, and nothing of other kinds.
func TestName(t *testing.T) {
	want := append(fieldNames(), make([]string, 256)...)
	for kind := range 256 {
		name := fields.Name(uint8(kind))
		if name != want[kind] {
			t.Errorf("Name(%d): %q, want %q", kind, name, want[kind])
		}
		if known, ok := fields.Kind(name); ok != (kind >= 1 && kind <= 7) || ok && int(known) != kind {
			t.Errorf("Kind(Name(%d)): %d, %t", kind, known, ok)
		}
	}
}

// P13.4: names with a byte changed, put in or left out, or with more about them, name nothing.
func TestNoName(t *testing.T) {
	for _, name := range fieldNames() {
		for c := range 256 {
			b := string([]byte{byte(c)})
			for i := range len(name) {
				for _, other := range []string{name[:i] + b + name[i+1:], name[:i] + b + name[i:], name[:i] + b} {
					kind, ok := kindByWords(other)
					names(t, other, kind, ok)
				}
			}
			names(t, name+b, 0, false)
		}
		for i := range len(name) {
			names(t, name[:i], 0, false)
			names(t, name[i+1:], 0, false)
			names(t, name[:i]+name[i+1:], 0, false)
		}
		for _, other := range fieldNames()[1:] {
			if name != "" {
				names(t, name+other, 0, false)
				names(t, name+":"+other, 0, false)
			}
		}
		for _, blank := range []string{" ", "\t", "\r", "\n", ":", "\x00"} {
			names(t, name+blank, 0, false)
			names(t, blank+name, 0, false)
		}
	}
	for _, other := range []string{"", "-", "KeyNote", "Version", "Local", "Constants", "Local_Constants", "Local\rConstants", "LocalConstants", "KeyNote Version", "Author", strings.Repeat("Comment", 1000), strings.Repeat("x", 1<<20)} {
		names(t, other, 0, false)
	}
}

// P13.4: letters of other alphabets are none of these.
func TestForeign(t *testing.T) {
	for _, name := range fieldNames()[1:] {
		for _, letter := range foreign() {
			for i := range len(name) {
				names(t, name[:i]+letter+name[i+1:], 0, false)
				names(t, name[:i]+letter+name[i:], 0, false)
			}
			names(t, name+letter, 0, false)
		}
	}
}
