package fields_test

import (
	"strings"
	"testing"

	"vouch/api"
)

// full is a text with all kinds of fields.
const full = "KeyNote-Version: 2\nauthorizer:\n\t\"k\"\n\nLICENSEES:\r\n \"l\"\r\nLocal-Constants:\nConditions:a;\nComment: c: \nSignature:\n \"s\"\n# t"

// P13.2: the chapter's examples.
func TestFindExamples(t *testing.T) {
	finds(t, "Authorizer: x\n", 2, " x\n", true, api.OK)
	finds(t, "Authorizer: x\n", 3, "", false, api.OK)
	finds(t, "Authorizer: x\n", 8, "", false, api.ErrArg)
}

// P13.2: the bodies of all kinds, empty ones too.
func TestFind(t *testing.T) {
	text := strings.TrimSuffix(full, "# t")
	for kind, want := range []string{1: " 2\n", 2: "\n\t\"k\"\n\n", 3: "\r\n \"l\"\r\n", 4: "\n", 5: "a;\n", 6: " c: \n", 7: "\n \"s\"\n"} {
		if kind > 0 {
			finds(t, text, uint8(kind), want, true, api.OK)
		}
	}
	finds(t, "Authorizer:", 2, "", true, api.OK)
	finds(t, "Comment:\nAuthorizer:", 2, "", true, api.OK)
	for _, kind := range []uint8{1, 3, 4, 5, 6, 7} {
		finds(t, "Authorizer:\n Comment:\n", kind, "", false, api.OK)
	}
}

// P13.2: ErrArg ahead of Split's error, which stands ahead of all else.
func TestFindRefused(t *testing.T) {
	wrong := map[string]api.Errno{
		"": 131, "x": 131, "Authorizer:\nx": 131, full: 131, "Authorizer:\x00": 130, "Authorizer:\nAuthorizer:": 132, "Authorizer:\nKeyNote-Version:": 133, "Signature:\nAuthorizer:": 133,
		"Comment:": 134, "Signature: s\n": 134, "Authorizer:" + strings.Repeat("x", mostBytes): 3,
	}
	for text, e := range wrong {
		for kind := range 256 {
			if kind >= 1 && kind <= 7 {
				finds(t, text, uint8(kind), "", false, e)
			} else {
				finds(t, text, uint8(kind), "", false, api.ErrArg)
			}
		}
		signs(t, text, "", e)
	}
	for kind := range 256 {
		if kind < 1 || kind > 7 {
			finds(t, "Authorizer:", uint8(kind), "", false, api.ErrArg)
		}
	}
}

// P13.3: the chapter's examples; what stands ahead of the Signature's name is told as it stands.
func TestSigned(t *testing.T) {
	signs(t, "Authorizer:\n x\nSignature: y", "Authorizer:\n x\n", api.OK)
	signs(t, "Authorizer:", "", api.ErrMissing)
	for _, ahead := range []string{"Authorizer:\n", "KEYNOTE-Version: 2\r\nauthorizer:a\n\n\n", "Comment: \n Signature: x\nAuthorizer:\n\tSignature:\n"} {
		for _, behind := range []string{"Signature:", "signature:\n", "SIGNATURE: \"s\"\n\n ", "sIgNaTuRe::\n Signature:\n"} {
			signs(t, ahead+behind, ahead, api.OK)
		}
		signs(t, ahead, "", api.ErrMissing)
		signs(t, ahead+" Signature: s\n", "", api.ErrMissing)
		signs(t, ahead+"Signature: s\nx\n", "", api.ErrField)
		signs(t, ahead+"Signature: s\nSignature: s\n", "", api.ErrTwice)
		signs(t, ahead+"Signature: s\nLicensees:\n", "", api.ErrOrder)
	}
	long := "Authorizer:" + strings.Repeat("x", mostBytes-len("Authorizer:\nSignature:")) + "\n"
	signs(t, long+"Signature:", long, api.OK)
	signs(t, long+"Signature:x", "", api.ErrLimit)
}
