package names_test

import (
	"math/rand"
	"strings"
	"testing"

	"vouch/api"
)

// The chapter's examples of Of.
func TestExamplesOfOf(t *testing.T) {
	tells(t, "POLICY", api.Principal{Kind: api.Policy, Text: "POLICY"}, api.OK)
	for _, text := range []string{"policy", "", "alice", "rsa-sha-hex:00", "rsa-hex", "-hex:00", "rsa-hex :" + exampleHex} {
		isOpaque(t, text)
	}
	keyed := api.Principal{Kind: api.Keyed, Text: "rsa-hex:" + exampleHex, Key: exampleKey()}
	tells(t, "rsa-hex:"+exampleHex, keyed, api.OK)
	tells(t, "RSA-Base64:"+exampleBase64(), keyed, api.OK)
	for text, e := range map[string]api.Errno{
		"dsa-hex:00": api.ErrUnsupported, "x9-BASE64:": api.ErrUnsupported,
		"rsa-hex:0": api.ErrEncoding, "rsa-base64:0": api.ErrEncoding,
		"rsa-hex:": api.ErrKeyForm, "rsa-hex:3006020105020103": api.ErrKey,
	} {
		refuses(t, text, e)
	}
}

// The kinds and the errors have the numbers that the chapter tells.
func TestNumbers(t *testing.T) {
	if api.Policy != 3 || api.Keyed != 2 || api.Opaque != 1 {
		t.Error("a kind has another number")
	}
	if api.ErrLimit != 3 || api.ErrKey != 80 || api.ErrUnsupported != 90 || api.ErrEncoding != 91 || api.ErrKeyForm != 92 || api.MaxSubject != 65536 {
		t.Error("an error, or the limit, has another number")
	}
}

// P9.1: the policy is meant by just its six letters.
func TestPolicy(t *testing.T) {
	for _, text := range casings("policy") {
		if text == "POLICY" {
			tells(t, text, api.Principal{Kind: 3, Text: text}, api.OK)
		} else {
			isOpaque(t, text)
		}
	}
	for c := range 256 {
		isOpaque(t, "POLICY"+string([]byte{byte(c)}))
		isOpaque(t, string([]byte{byte(c)})+"POLICY")
		isOpaque(t, "POL"+string([]byte{byte(c)})+"ICY")
	}
	for _, text := range []string{"POLIC", "OLICY", "P", "POLICYPOLICY", "\"POLICY\"", "POLICY:", "POLICY:00", ":POLICY", "POLICY:POLICY", "POLICY-", "POLICY-hex", "POL\u0130CY", "\uff30OLICY"} {
		isOpaque(t, text)
	}
	refuses(t, "POLICY-hex:", api.ErrUnsupported)
	refuses(t, "policy-base64:"+exampleBase64(), api.ErrUnsupported)
}

// P9.1: a text without a colon has no front; only what stands ahead of the first colon is one.
func TestColons(t *testing.T) {
	for _, text := range []string{
		"", ":", "::", ":::", "a", "a:", ":a", "a:b", "a:b:c", "hex", "hex:", "-", "-:", "--:", "rsa", "rsa:", "rsa:hex:", "rsa-:", "rsa-hex", "rsa-base64", "RSA-HEX",
		":rsa-hex", ":rsa-hex:" + exampleHex, "a:rsa-hex:" + exampleHex, "rsa-:hex:" + exampleHex, "rsa:-hex:" + exampleHex, "rsa:rsa-hex:" + exampleHex, "rsa-hex" + exampleHex, "rsa-hex;" + exampleHex, exampleHex, exampleBase64(),
		"sig-rsa-sha1-hex:00", "sig-rsa-sha1-base64:", "dsa-sha-hex:00", "http://example.org/rsa-hex:00",
	} {
		isOpaque(t, text)
	}
	for _, data := range []string{":", "::", ":" + exampleHex, exampleHex + ":", exampleHex[:10] + ":" + exampleHex[10:], "rsa-hex:" + exampleHex} {
		refuses(t, "rsa-hex:"+data, api.ErrEncoding)
		refuses(t, "rsa-base64:"+data, api.ErrEncoding)
		refuses(t, "dsa-hex:"+data, api.ErrUnsupported)
	}
}

// P9.1: the letters of a front may be great or small, each by itself; those of hex, too.
func TestLetters(t *testing.T) {
	r := rand.New(rand.NewSource(71))
	n := hexNumber(exampleN)
	for _, front := range casings("rsa-hex") {
		isKey(t, front+":"+exampleHex, n, small(3))
		isKey(t, front+":"+strings.ToUpper(exampleHex), n, small(3))
		isKey(t, front+":"+mixed(r, exampleHex), n, small(3))
		refuses(t, front+":"+exampleHex+"g", api.ErrEncoding)
	}
	for _, front := range casings("rsa-base64") {
		isKey(t, front+":"+exampleBase64(), n, small(3))
		refuses(t, front+":"+strings.ToUpper(exampleBase64())+"A", api.ErrEncoding)
	}
	for _, front := range append(casings("dsa-hex"), casings("x9-base64")...) {
		refuses(t, front+":"+exampleHex, api.ErrUnsupported)
	}
	for _, front := range append(casings("rsa-hey"), casings("rs-a-hex")...) {
		isOpaque(t, front+":"+exampleHex)
	}
}

// P9.1: whatever has just one or more letters and digits for its algorithm names a key; only those of rsa are read.
func TestAlgorithms(t *testing.T) {
	for _, algorithm := range []string{"a", "z", "A", "Z", "0", "9", "7", "dsa", "DSA", "x9", "9x", "x509", "123456789", "rs", "sa", "rsa1", "1rsa", "rrsa", "rsaa", "rsa0", "rsarsa", "rsahex", "hex", "base64", "hexhex", "sha1", "ed25519", "ELGamal", "abcdefghijklmnopqrstuvwxyz", "ABCDEFGHIJKLMNOPQRSTUVWXYZ", "0123456789", strings.Repeat("rsa", 20000)} {
		for _, front := range []string{"-hex", "-HEX", "-base64", "-bAsE64"} {
			for _, data := range []string{"", "0", "00", "AA==", exampleHex, exampleBase64(), "0:0", ":"} {
				refuses(t, algorithm+front+":"+data, api.ErrUnsupported)
			}
			isOpaque(t, algorithm+front)
			isOpaque(t, algorithm+"-"+front+":00")
			isOpaque(t, algorithm+front+"-:00")
			isOpaque(t, algorithm+":"+front+":00")
		}
	}
}

// P9.1: each byte at each place of a front, put in or over what stood there.
func TestEachByte(t *testing.T) {
	count := map[api.Errno]int{}
	for _, front := range []string{"rsa-hex", "rsa-base64", "dsa-hex", "x-hex", "x9-base64"} {
		data := exampleHex
		if strings.HasSuffix(front, "64") {
			data = exampleBase64()
		}
		for at := range len(front) + 1 {
			for c := range 256 {
				put := string([]byte{byte(c)})
				count[holds(t, front[:at]+put+front[at:]+":"+data)]++
				count[holds(t, front[:at]+put+front[min(at+1, len(front)):]+":"+data)]++
			}
		}
	}
	if count[api.OK] < 10000 || count[api.ErrUnsupported] < 1000 || count[api.ErrEncoding] == 0 {
		t.Errorf("%v", count)
	}
}

// P9.1: each byte for an algorithm: a letter or a digit names a key, anything else does not.
func TestByteForAlgorithm(t *testing.T) {
	named := 0
	for c := range 256 {
		put := string([]byte{byte(c)})
		if strings.Contains("abcdefghijklmnopqrstuvwxyzABCDEFGHIJKLMNOPQRSTUVWXYZ0123456789", put) {
			named++
			for _, text := range []string{put + "-hex:00", put + put + "-hex:00", put + "rsa-hex:00", "rsa" + put + "-hex:00", "rs" + put + "a-hex:00", put + "-Base64:"} {
				refuses(t, text, api.ErrUnsupported)
			}
			continue
		}
		for _, text := range []string{put + "-hex:00", "a" + put + "-base64:00", "rsa" + put + "-hex:" + exampleHex, put + "rsa-hex:" + exampleHex, "rs" + put + "a-hex:" + exampleHex} {
			if put != ":" {
				isOpaque(t, text)
			}
		}
	}
	if named != 62 {
		t.Errorf("%d bytes name a key", named)
	}
}

// P9.1: letters of other alphabets are none, wherever the library would take them for one.
func TestForeign(t *testing.T) {
	for _, put := range foreign() {
		for _, front := range []string{"rsa-hex", "rsa-base64", "x9-hex"} {
			for at := range len(front) + 1 {
				isOpaque(t, front[:at]+put+front[at:]+":"+exampleHex)
				if at < len(front) {
					isOpaque(t, front[:at]+put+front[at+1:]+":"+exampleHex)
				}
			}
		}
		isOpaque(t, put+"-hex:00")
		isOpaque(t, put+"-base64:")
		isOpaque(t, put)
		refuses(t, "rsa-hex:"+put+exampleHex, api.ErrEncoding)
		refuses(t, "rsa-base64:"+exampleBase64()+put, api.ErrEncoding)
	}
	for _, text := range []string{"r\u017fa-hex:", "R\u017fA-HEX:", "rsa-ba\u017fe64:", "RSA-BA\u017fE64:"} {
		isOpaque(t, text+exampleHex)
		isOpaque(t, text+exampleBase64())
	}
}

// P9.1: fronts of one piece, two, three and more, empty ones among them, and encodings that are neither hex nor base64.
func TestPieces(t *testing.T) {
	for _, front := range []string{
		"hex", "base64", "rsa", "rsahex", "rsabase64", "rsa hex", "rsa_hex", "rsa.hex", "rsa/hex", "rsa+hex",
		"", "-", "--", "---", "-hex", "--hex", "hex-", "-hex-", "rsa-", "-rsa", "rsa--", "rsa--hex", "-rsa-hex", "rsa-hex-", "-base64", "rsa--base64", "-rsa-base64", "rsa-base64-",
		"rsa-sha-hex", "rsa-sha1-base64", "rsa-rsa-hex", "rsa-hex-hex", "rsa-hex-base64", "rsa-base64-hex", "hex-rsa", "base64-rsa", "sig-rsa-hex", "a-b-c-hex", "sig-rsa-sha1-hex",
		"rsa-he", "rsa-ex", "rsa-h", "rsa-hexx", "rsa-hhex", "rsa-hex1", "rsa-1hex", "rsa-hex64", "rsa-base", "rsa-base6", "rsa-base32", "rsa-base46", "rsa-base640", "rsa-base644", "rsa-base 64", "rsa-64", "rsa-bbase64", "rsa-basee64", "rsa-b64", "rsa-base65", "rsa-hexbase64", "rsa-dec", "rsa-rsa", "rsa-pem", "rsa-octal",
		" rsa-hex", "rsa -hex", "rsa- hex", "rsa-hex ", "\trsa-hex", "rsa-hex\n", "\nrsa-hex", "rsa-hex\x00", "\x00rsa-hex", "\"rsa-hex\"", "rsa\n-hex", "a\nrsa-hex", "rsa-hex\nb",
	} {
		for _, data := range []string{"", "00", "0", exampleHex, exampleBase64(), ":", "rsa-hex:" + exampleHex} {
			isOpaque(t, front+":"+data)
		}
		if front != "" {
			isOpaque(t, front)
		}
	}
}

// P9.1: data that its encoding refuses; what one of them reads, the other need not.
func TestEncodings(t *testing.T) {
	hex, base64 := exampleHex, exampleBase64()
	for _, data := range []string{"0", "g0", "0g", "0x" + hex, hex + "0", hex[1:], hex[:len(hex)-1], hex + " ", " " + hex, hex + "\n", "\n" + hex, hex[:8] + "\n" + hex[8:], hex[:8] + " " + hex[8:], hex + "\x00", base64, "-" + hex, "=", "====", "\"" + hex + "\""} {
		refuses(t, "rsa-hex:"+data, api.ErrEncoding)
		refuses(t, "RSA-HEX:"+data, api.ErrEncoding)
	}
	for _, data := range []string{"0", "AA", "AAA", "AA=", "AB==", "AAB=", "A===", "=", "====", base64 + "A", base64[1:], base64[:len(base64)-1], base64 + "=", base64 + "\n", "\n" + base64, base64[:4] + "\n" + base64[4:], base64 + "====", "AA==" + base64, "-" + base64[1:], base64[:7] + "_" + base64[8:], hex[:len(hex)-2]} {
		refuses(t, "rsa-base64:"+data, api.ErrEncoding)
	}
	for _, front := range []string{"rsa-hex:", "rsa-base64:", "RSA-Hex:", "Rsa-BASE64:"} {
		refuses(t, front, api.ErrKeyForm)
	}
}

// P9.1: a text of 65536 bytes is looked at, one more is refused, whatever it is.
func TestLengths(t *testing.T) {
	for _, front := range []string{"", "a", "POLICY", ":", "alice:", "rsa-hex", "rsa-sha-hex:", "-hex:", "\xff"} {
		text := front + strings.Repeat("0", 65536-len(front))
		isOpaque(t, text)
		isOpaque(t, text[:65535])
		refuses(t, text+"0", api.ErrLimit)
		refuses(t, text+text, api.ErrLimit)
	}
	for front, e := range map[string]api.Errno{"rsa-hex:": api.ErrKeyForm, "rsa-base64:": api.ErrEncoding, "dsa-hex:": api.ErrUnsupported} {
		text := front + strings.Repeat("0", 65536-len(front))
		refuses(t, text, e)
		refuses(t, text+"0", api.ErrLimit)
		refuses(t, strings.ToUpper(text)+":", api.ErrLimit)
	}
	refuses(t, "rsa-base64:"+strings.Repeat("A", 65524), api.ErrKeyForm)
	refuses(t, strings.Repeat("a", 65536-5)+"-hex:", api.ErrUnsupported)
	refuses(t, strings.Repeat("a", 65537-5)+"-hex:", api.ErrLimit)
	isOpaque(t, strings.Repeat(":", 65536))
	refuses(t, strings.Repeat(":", 65537), api.ErrLimit)
	isOpaque(t, strings.Repeat("\u00e9", 32768))
	refuses(t, strings.Repeat("\u00e9", 32768)+"a", api.ErrLimit)
	refuses(t, strings.Repeat("POLICY", 20000), api.ErrLimit)
	refuses(t, strings.Repeat("a", 1<<22), api.ErrLimit)
}

// P9.1: all texts of few pieces.
func TestFewPieces(t *testing.T) {
	pieces := []string{"rsa", "RSA", "d", "7", "-", "hex", "Hex", "base64", ":", exampleHex, exampleBase64(), "00", "POLICY", " ", "\u017f", "\xff", "sig-rsa-sha1-"}
	count := map[api.Errno]int{}
	for n := range 6 {
		if n == 5 {
			pieces = []string{"rsa", "x", "-", "hex", "Base64", ":", "00", exampleHex, exampleBase64(), "\xff"}
		}
		all(pieces, n, func(s string) { count[holds(t, s)]++ })
	}
	for _, e := range []api.Errno{api.OK, api.ErrUnsupported, api.ErrEncoding, api.ErrKeyForm} {
		if count[e] < 8 {
			t.Errorf("error %d came %d times", e, count[e])
		}
	}
}

// P9.1: texts of keys in which a byte was changed, put in or left out, and drawn ones.
func TestDrawn(t *testing.T) {
	r := rand.New(rand.NewSource(72))
	count := map[api.Errno]int{}
	for range 30000 {
		text := mixed(r, "rsa-hex:"+exampleHex)
		if r.Intn(2) == 0 {
			text = mixed(r, "rsa-base64:") + exampleBase64()
		}
		at := r.Intn(len(text))
		if r.Intn(2) == 0 {
			at %= 12
		}
		put := string(drawn(r, r.Intn(2)))
		if r.Intn(2) == 0 {
			put = string("0123456789abcdefABCDEFxyzXYZ-:=+/"[r.Intn(33)])
		}
		count[holds(t, text[:at]+put+text[at+r.Intn(2):])]++
		holds(t, string(drawn(r, r.Intn(12))))
		holds(t, "rsa-hex:"+string(drawn(r, r.Intn(4))))
	}
	for _, e := range []api.Errno{api.OK, api.ErrUnsupported, api.ErrEncoding, api.ErrKeyForm, api.ErrKey} {
		if count[e] < 20 {
			t.Errorf("error %d came %d times", e, count[e])
		}
	}
}
