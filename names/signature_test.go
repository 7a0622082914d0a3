package names_test

import (
	"encoding/hex"
	"math/rand"
	"strings"
	"testing"

	"vouch/api"
)

// The chapter's examples of Signature.
func TestExamplesOfSignature(t *testing.T) {
	isSignature(t, "sig-RSA-sha1-hex:0fF0", "sig-RSA-sha1-hex:", []byte{0x0f, 0xf0}, api.OK)
	isSignature(t, "sig-rsa-sha1-base64:TQ==", "sig-rsa-sha1-base64:", []byte{0x4d}, api.OK)
	isSignature(t, "sig-rsa-sha1-hex:", "sig-rsa-sha1-hex:", nil, api.OK)
	for _, text := range []string{"sig-dsa-sha1-hex:00", "sig-rsa-md5-hex:00", ""} {
		noSignature(t, text, api.ErrUnsupported)
	}
	noSignature(t, "sig-rsa-sha1-hex:0", api.ErrEncoding)
}

// P9.3: bytes of all lengths, in both encodings; the front stands in the answer as in the text.
func TestSignature(t *testing.T) {
	r := rand.New(rand.NewSource(91))
	for n := range 600 {
		b := drawn(r, n)
		front := mixed(r, "sig-rsa-sha1-hex:")
		isSignature(t, front+hex.EncodeToString(b), front, b, api.OK)
		isSignature(t, front+mixed(r, hex.EncodeToString(b)), front, b, api.OK)
		noSignature(t, front+hex.EncodeToString(b)+"0", api.ErrEncoding)
		front = mixed(r, "sig-rsa-sha1-base64:")
		isSignature(t, front+inBase64(b), front, b, api.OK)
		noSignature(t, front+inBase64(b)+"A", api.ErrEncoding)
	}
}

// P9.3: each letter of a front may be great or small by itself.
func TestLettersOfSignature(t *testing.T) {
	for _, front := range casings("sig-rsa-sha1-hex:") {
		isSignature(t, front+"00fF", front, []byte{0x00, 0xff}, api.OK)
	}
	for _, front := range casings("sig-rsa-sha1-base64:") {
		isSignature(t, front+"AP8=", front, []byte{0x00, 0xff}, api.OK)
	}
	for _, front := range casings("sig-dsa-sha1-hex:") {
		noSignature(t, front+"00", api.ErrUnsupported)
	}
}

// P9.3: whatever has another front, or none, is of another algorithm.
func TestOtherFronts(t *testing.T) {
	for _, front := range []string{
		"", "sig", "sig-", "-", "sig-rsa", "sig-rsa-", "sig-rsa-sha1", "sig-rsa-sha1-", "hex", "base64", "-hex", "sha1-hex", "rsa-sha1-hex", "-rsa-sha1-hex", "rsa-hex", "rsa-base64", "sig-hex", "sig-rsa-hex", "sig-sha1-hex", "rsa-sig-sha1-hex", "sig-sha1-rsa-hex",
		"sig--rsa-sha1-hex", "sig-rsa--sha1-hex", "sig-rsa-sha1--hex", "-sig-rsa-sha1-hex", "sig-rsa-sha1-hex-", "sig-rsa-sha1-hex-hex", "sig-rsa-sha1-hex-base64", "sig-rsa-sha1-base64-hex", "sig-rsa-sha1-rsa-hex", "a-sig-rsa-sha1-hex", "sig-sig-rsa-sha1-hex",
		"sigrsa-sha1-hex", "sig-rsasha1-hex", "sig-rsa-sha1hex", "sigrsasha1hex", "sig_rsa_sha1_hex", "sig rsa sha1 hex",
		"sig-rsa-sha-hex", "sig-rsa-sha2-hex", "sig-rsa-sha11-hex", "sig-rsa-sha10-hex", "sig-rsa-sha256-hex", "sig-rsa-md5-base64", "sig-dsa-sha1-base64", "sig-rs-sha1-hex", "sig-rsaa-sha1-hex", "sig-x509-sha1-hex", "si-rsa-sha1-hex", "ig-rsa-sha1-hex", "sigg-rsa-sha1-hex", "ssig-rsa-sha1-hex", "gis-rsa-sha1-hex",
		"sig-rsa-sha1-he", "sig-rsa-sha1-hexx", "sig-rsa-sha1-ex", "sig-rsa-sha1-base", "sig-rsa-sha1-base6", "sig-rsa-sha1-base32", "sig-rsa-sha1-base644", "sig-rsa-sha1-64", "sig-rsa-sha1-dec",
		" sig-rsa-sha1-hex", "sig-rsa-sha1-hex ", "sig -rsa-sha1-hex", "sig-rsa-sha1- hex", "\nsig-rsa-sha1-hex", "sig-rsa-sha1-hex\n", "sig-rsa-sha1-hex\x00", "\"sig-rsa-sha1-hex", "POLICY",
	} {
		for _, data := range []string{"", "00", "0", "AA==", exampleHex, ":", ":00", "sig-rsa-sha1-hex:00"} {
			noSignature(t, front+":"+data, api.ErrUnsupported)
		}
		noSignature(t, front, api.ErrUnsupported)
	}
	for _, text := range []string{"sig-rsa-sha1-hex", "sig-rsa-sha1-base64", "SIG-RSA-SHA1-HEX", "sig-rsa-sha1-hex00", "sig-rsa-sha1-hex;00", ":sig-rsa-sha1-hex:00", "sig:-rsa-sha1-hex:00", "sig-rsa-sha1:-hex:00", "sig-rsa-sha1-:hex:00"} {
		noSignature(t, text, api.ErrUnsupported)
	}
}

// P9.3: each byte at each place of a front, put in or over what stood there.
func TestEachByteOfSignature(t *testing.T) {
	count := map[api.Errno]int{}
	for _, front := range []string{"sig-rsa-sha1-hex", "sig-rsa-sha1-base64"} {
		for at := range len(front) + 1 {
			for c := range 256 {
				put := string([]byte{byte(c)})
				count[signs(t, front[:at]+put+front[at:]+":0000")]++
				count[signs(t, front[:at]+put+front[min(at+1, len(front)):]+":0000")]++
			}
		}
	}
	if count[api.OK] < 40 || count[api.ErrUnsupported] < 10000 || count[api.ErrEncoding] == 0 {
		t.Errorf("%v", count)
	}
	for _, put := range foreign() {
		for _, front := range []string{"sig-rsa-sha1-hex", "SIG-RSA-SHA1-BASE64"} {
			for at := range front {
				noSignature(t, front[:at]+put+front[at+1:]+":0000", api.ErrUnsupported)
				noSignature(t, front[:at]+put+front[at:]+":0000", api.ErrUnsupported)
			}
		}
	}
	for _, front := range []string{"\u017fig-rsa-sha1-hex", "s\u0130g-rsa-sha1-hex", "SIG-R\u017fA-SHA1-HEX", "s\u0131g-rsa-sha1-hex", "sig-rsa-\u017fha1-hex", "sig-rsa-sha1-ba\u017fe64"} {
		noSignature(t, front+":0000", api.ErrUnsupported)
	}
}

// P9.3: data that its encoding refuses; all behind the first colon is data.
func TestDataOfSignature(t *testing.T) {
	for _, data := range []string{"0", "000", "0g", "g0", "0x00", " 00", "00 ", "0 0", "00\n", "\n00", "00:00", ":", "::", ":00", "00:", "TQ==", "=", "\xff\xff", "\u00e9", "sig-rsa-sha1-hex:00"} {
		noSignature(t, "sig-rsa-sha1-hex:"+data, api.ErrEncoding)
		noSignature(t, "SIG-RSA-SHA1-HEX:"+data, api.ErrEncoding)
	}
	for _, data := range []string{"0", "00", "TQ", "TQ=", "TR==", "T===", "====", "TQ==TQ==", "TW-u", "TWFu\n", "\nTWFu", " TWFu", "TWFu ", "TW\nFu", "TWF=", "TWFu:", ":TWFu", "TWFu:TWF", ":", "\xff\xff\xff\xff"} {
		noSignature(t, "sig-rsa-sha1-base64:"+data, api.ErrEncoding)
	}
	for _, text := range []string{"sig-rsa-sha1-hex:", "sig-rsa-sha1-base64:", "Sig-Rsa-Sha1-Hex:", "SIG-RSA-SHA1-BASE64:"} {
		isSignature(t, text, text, nil, api.OK)
	}
}

// P9.3: a text of 65536 bytes is looked at, one more is refused ahead of all else.
func TestLengthsOfSignature(t *testing.T) {
	hexFront, base64Front := "sig-rsa-sha1-hex:", "sig-rsa-sha1-base64:"
	isSignature(t, hexFront+strings.Repeat("0", 65518), hexFront, make([]byte, 32759), api.OK)
	noSignature(t, hexFront+strings.Repeat("0", 65519), api.ErrEncoding)
	noSignature(t, hexFront+strings.Repeat("0", 65520), api.ErrLimit)
	isSignature(t, base64Front+strings.Repeat("A", 65516), base64Front, make([]byte, 49137), api.OK)
	noSignature(t, base64Front+strings.Repeat("A", 65517), api.ErrLimit)
	noSignature(t, base64Front+strings.Repeat("A", 65520), api.ErrLimit)
	for _, text := range []string{"", ":", "sig", "sig-dsa-sha1-hex:", "rsa-hex:"} {
		noSignature(t, text+strings.Repeat("0", 65536-len(text)), api.ErrUnsupported)
		noSignature(t, text+strings.Repeat("0", 65537-len(text)), api.ErrLimit)
		noSignature(t, text+strings.Repeat("0", 1<<22), api.ErrLimit)
	}
	noSignature(t, "sig-dsa-sha1-hex:0", api.ErrUnsupported)
	noSignature(t, "sig-rsa-md5-base64:0", api.ErrUnsupported)
}

// P9.3: all texts of few pieces, and drawn ones.
func TestFewPiecesOfSignature(t *testing.T) {
	count := map[api.Errno]int{}
	for n := range 5 {
		all([]string{"sig", "-", "rsa", "RSA", "sha1", "hex", "base64", ":", "sig-RSA-sha1", "-Hex:", "-base64:", "00", "TQ==", "0", "POLICY", " ", "\u017f", "\xff"}, n, func(s string) { count[signs(t, s)]++ })
	}
	r := rand.New(rand.NewSource(92))
	for range 20000 {
		text := mixed(r, "sig-rsa-sha1-base64:") + inBase64(drawn(r, 1+r.Intn(8)))
		if r.Intn(2) == 0 {
			text = mixed(r, "sig-rsa-sha1-hex:"+hex.EncodeToString(drawn(r, 1+r.Intn(8))))
		}
		at := r.Intn(len(text))
		count[signs(t, text[:at]+string(drawn(r, r.Intn(2)))+text[at+r.Intn(2):])]++
		signs(t, string(drawn(r, r.Intn(12))))
	}
	for _, e := range []api.Errno{api.OK, api.ErrUnsupported, api.ErrEncoding} {
		if count[e] < 100 {
			t.Errorf("error %d came %d times", e, count[e])
		}
	}
}
