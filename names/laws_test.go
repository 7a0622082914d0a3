package names_test

import (
	"encoding/hex"
	"math/big"
	"math/rand"
	"strings"
	"testing"

	"vouch/api"
	"vouch/der"
	"vouch/names"
)

// isSame holds Same both ways round.
func isSame(t *testing.T, a, b string, want bool) {
	t.Helper()
	if names.Same(a, b) != want || names.Same(b, a) != want {
		t.Fatalf("Same(%.60q, %.60q): %t, and %t the other way round, want %t", a, b, names.Same(a, b), names.Same(b, a), want)
	}
}

// refused are texts that Of refuses, one for each error and more.
func refused() []string {
	return []string{"dsa-hex:00", "x9-BASE64:", "rsa-hex:0", "rsa-base64:0", "rsa-hex:", "rsa-hex:3006020105020103", "rsa-hex:" + hex.EncodeToString(bytesOf(power(4096), small(3))), strings.Repeat("a", 65537)}
}

// The chapter's examples of Same.
func TestExamplesOfSame(t *testing.T) {
	isSame(t, "rsa-hex:"+exampleHex, "rsa-BASE64:"+exampleBase64(), true)
	isSame(t, "a", "A", false)
	isSame(t, "dsa-hex:00", "dsa-hex:00", false)
}

// P9.2: two texts are the same just where their normal texts are; what is refused is the same as nothing, not even itself.
func TestSame(t *testing.T) {
	list := []string{"POLICY", "policy", "Policy", "POLICY:", "POLICY ", "", " ", ":", "a", "A", "a ", "alice", "bob", "rsa-hex", "RSA-HEX", "rsa-sha-hex:00", "RSA-sha-hex:00", "\u00e9", "e\u0301", "s", "\u017f", "\xff", "\xfe", "\ufffd", exampleHex, strings.ToUpper(exampleHex)}
	for i, a := range list {
		for j, b := range list {
			isSame(t, a, strings.Clone(b), i == j)
		}
		isSame(t, a, "rsa-hex:"+exampleHex, false)
		for _, b := range refused() {
			isSame(t, a, b, false)
		}
	}
	for _, a := range refused() {
		for _, b := range refused() {
			isSame(t, a, b, false)
		}
		isSame(t, a, "rsa-hex:"+exampleHex, false)
	}
	long := strings.Repeat("a", 65536)
	isSame(t, long, strings.Clone(long), true)
	isSame(t, long, long[1:], false)
	isSame(t, long+"a", long+"a", false)
}

// P9.4: a key's bytes in hex, in base64, in great letters and small ones name the same principal, and no other key's do.
func TestSpellings(t *testing.T) {
	r := rand.New(rand.NewSource(101))
	var keys [][]byte
	for range 12 {
		n, e := odd(r, 368+r.Intn(700)), odd(r, 2+r.Intn(300))
		keys = append(keys, bytesOf(n, e), bytesOf(plus(n, 2), e), bytesOf(n, plus(e, 2)), bytesOf(plus(n, -2), plus(e, 2)), bytesOf(new(big.Int).SetBit(n, 1100, 1), e))
	}
	for i, first := range keys {
		for j, second := range keys {
			for _, a := range texts(r, first)[2:] {
				for _, b := range texts(r, second)[2:] {
					isSame(t, a, b, i == j)
				}
			}
		}
	}
}

// P9.4: two keys have unlike texts just where N or E are unlike numbers; noughts at their lists' ends count for nothing.
func TestUnlikeKeys(t *testing.T) {
	r := rand.New(rand.NewSource(102))
	seen := map[string]bool{}
	count := 0
	for _, bits := range []int{368, 376, 384, 512, 1016, 1024} {
		n := odd(r, bits)
		for i := int64(0); i < 20; i++ {
			for e := int64(3); e < 40; e += 2 {
				k := keyOf(plus(n, 2*i), small(e))
				if bigOf(k.N).BitLen() != bits {
					continue
				}
				text := textOf(t, k)
				count++
				seen[text] = true
				noughts := api.Key{N: padded(k.N, 1+r.Intn(5)), E: padded(k.E, r.Intn(70))}
				if textOf(t, noughts) != text {
					t.Fatalf("%x: noughts at the lists' ends count", k)
				}
			}
		}
	}
	if len(seen) != count || count < 1000 {
		t.Errorf("%d keys have %d texts", count, len(seen))
	}
}

// textOf is the normal text of a key as layer 7 writes it.
func textOf(t *testing.T, k api.Key) string {
	t.Helper()
	b, e := der.Encode(k)
	if e != api.OK {
		t.Fatalf("Encode(%x): error %d", k, e)
	}
	text, e := names.Normal("RSA-base64:" + inBase64(b))
	if e != api.OK {
		t.Fatalf("Normal of the key %x: error %d", k, e)
	}
	return text
}

// many are texts of all kinds, with and without errors.
func many(r *rand.Rand) []string {
	list := append(refused(), "POLICY", "policy", "", ":", "alice", "rsa-hex", "rsa-sha-hex:00", "\xff", strings.Repeat("b", 65536), "RSA-HEX", "Rsa-Sha-Hex:00")
	for range 60 {
		list = append(list, texts(r, bytesOf(odd(r, 360+r.Intn(600)), odd(r, 1+r.Intn(400))))...)
		list = append(list, mixed(r, "rsa-sha-hex:"+exampleHex), string(drawn(r, r.Intn(20))), mixed(r, "rsa-hex:"+exampleHex[:r.Intn(20)]))
	}
	list = append(list, texts(r, bytesOf(plus(power(4096), -1), plus(power(4096), -3)))...)
	return append(list, texts(r, unhexed(exampleHex))...)
}

// P9.4: Normal of Normal is Normal; whom it names is whom the text named.
func TestNormalAgain(t *testing.T) {
	r := rand.New(rand.NewSource(103))
	kinds := map[int]int{}
	for _, text := range many(r) {
		p, e := names.Of(text)
		if e != api.OK {
			continue
		}
		kinds[p.Kind]++
		normal, _ := names.Normal(text)
		again, e := names.Normal(normal)
		if e != api.OK || again != normal || !names.Same(text, normal) {
			t.Fatalf("Normal(%.80q) is %.80q, and of that %.80q, error %d", text, normal, again, e)
		}
		tells(t, normal, p, api.OK)
	}
	if kinds[api.Opaque] < 60 || kinds[api.Keyed] < 200 || kinds[api.Policy] != 1 {
		t.Errorf("%v", kinds)
	}
}

// P9.4: no opaque text is a key's, nor the policy's; a key's has the form of one.
func TestOpaqueApart(t *testing.T) {
	r := rand.New(rand.NewSource(104))
	kinds := map[string]int{}
	for _, text := range many(r) {
		p, e := names.Of(text)
		if e != api.OK {
			continue
		}
		if kind, ok := kinds[p.Text]; ok && kind != p.Kind {
			t.Fatalf("%.80q is the text of principals of two kinds", p.Text)
		}
		kinds[p.Text] = p.Kind
		if rest, ok := strings.CutPrefix(p.Text, "rsa-hex:"); ok != (p.Kind == api.Keyed) || ok && rest != strings.ToLower(rest) {
			t.Fatalf("%.80q is the text of a principal of kind %d", p.Text, p.Kind)
		}
		if (len(p.Key.N) > 0) != (p.Kind == api.Keyed) || (len(p.Key.E) > 0) != (p.Kind == api.Keyed) {
			t.Fatalf("%.80q has the key %x", p.Text, p.Key)
		}
	}
}

// What a call answers hangs on its arguments alone: asked again, behind calls that were refused, it is the same.
func TestAgain(t *testing.T) {
	r := rand.New(rand.NewSource(105))
	list := append(many(r), "sig-rsa-sha1-hex:00", "sig-RSA-sha1-base64:TQ==", "sig-rsa-sha1-hex:0")
	for range 2 {
		r.Shuffle(len(list), func(i, j int) { list[i], list[j] = list[j], list[i] })
		for _, text := range list {
			holds(t, text)
			signs(t, text)
		}
	}
}
