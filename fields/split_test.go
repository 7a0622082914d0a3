package fields_test

import (
	"math/rand"
	"strings"
	"testing"

	"vouch/api"
)

// P13.1: the chapter's examples.
func TestExamples(t *testing.T) {
	cuts(t, "Authorizer: \"a\"\n", 2, 0, 11, 16)
	cuts(t, "AUTHORIZER:\n x\nlicensees:\n", 2, 0, 11, 15, 3, 15, 25, 26)
	refuses(t, "", 0, api.ErrField)
	refuses(t, " Authorizer:", 0, api.ErrField)
	refuses(t, "Author:", 0, api.ErrField)
	refuses(t, "Comment:\n", 9, api.ErrMissing)
	cuts(t, "Authorizer:\n Authorizer : \n", 2, 0, 11, 27)
	refuses(t, "Authorizer:\nAuthorizer :\n", 12, api.ErrField)
	refuses(t, "Comment:\nkeynote-version: 2\n", 9, api.ErrOrder)
	refuses(t, "Signature:\nAuthorizer:\n", 11, api.ErrOrder)
	refuses(t, "Comment:\ncomment:\n", 9, api.ErrTwice)
	refuses(t, "Authorizer:\xc8", 11, api.ErrByte)
}

// P13.1: fields with all that may stand in them.
func TestFields(t *testing.T) {
	cuts(t, "Authorizer:", 2, 0, 11, 11)
	cuts(t, "Authorizer:\n", 2, 0, 11, 12)
	cuts(t, "Authorizer::", 2, 0, 11, 12)
	cuts(t, "Authorizer:Authorizer:", 2, 0, 11, 22)
	cuts(t, "Authorizer:x\n", 2, 0, 11, 13)
	cuts(t, "Authorizer:\n\n\n", 2, 0, 11, 14)
	cuts(t, "Authorizer:\r\n\r\n", 2, 0, 11, 15)
	cuts(t, "Authorizer:\n ", 2, 0, 11, 13)
	cuts(t, "Authorizer:\n\tComment:\n\rSignature:\n Authorizer:\nComment:", 2, 0, 11, 47, 6, 47, 55, 55)
	cuts(t, "KeyNote-Version:2\nAuthorizer:a\nLicensees:b\nLocal-Constants:c\nConditions:d\nComment:e\nSignature:f\n",
		1, 0, 16, 18, 2, 18, 29, 31, 3, 31, 41, 43, 4, 43, 59, 61, 5, 61, 72, 74, 6, 74, 82, 84, 7, 84, 94, 96)
	cuts(t, "keynote-version:\ncomment:\nconditions:\nlocal-constants:\nlicensees:\nauthorizer:\nsignature:",
		1, 0, 16, 17, 6, 17, 25, 26, 5, 26, 37, 38, 4, 38, 54, 55, 3, 55, 65, 66, 2, 66, 77, 78, 7, 78, 88, 88)
}

// P13.1: lines that begin no field, and those that should.
func TestErrField(t *testing.T) {
	for _, text := range []string{"\n", " ", "\t", "\r", "\nAuthorizer:", "\tAuthorizer:", "\rAuthorizer:", "\n\n", " \nAuthorizer:\n", ":", ":Authorizer:", "x", "x:", "Authorizer", "Authorizer\n", "Authorizer\n:", "Authorizer \n:", "Authorizer\r:", "Authorizer\t:", "Authorizers:", "uthorizer:", "-Authorizer:", "Authorizer=", "KeyNote Version:", "KeyNote-Version 2:", "LocalConstants:", "#Authorizer:", "\"Authorizer:", "~", "!"} {
		refuses(t, text, 0, api.ErrField)
		refuses(t, text+"\nAuthorizer:\nAuthorizer:\n", 0, api.ErrField)
	}
	for _, line := range []string{"x", "x:", "x\n", ":", "Comment", "Comment\n", "Comment :", "Comment\t: y", "Comment\n:", "Comments:", "~:\n", "\"b\"", "(:", "-:", "Author:", "Comment=:", "Signature"} {
		refuses(t, "Authorizer:\n"+line, 12, api.ErrField)
		refuses(t, "Authorizer: a\r\n b\n\n"+line, 19, api.ErrField)
		refuses(t, "Authorizer:\n"+line+"\nAuthorizer:", 12, api.ErrField)
	}
}

// P13.1: each byte, in a body, at a line's beginning, at the text's, and in a name.
func TestBytes(t *testing.T) {
	for c := range 256 {
		b := string([]byte{byte(c)})
		stands := strings.Contains("\t\n\r", b) || c >= 32 && c <= 126
		body := "Comment: x" + b + " y\nAuthorizer:\n z\n"
		line := "Authorizer:\n" + b
		first := b + "Authorizer:\n"
		inName := "Authorizer:\nComm" + b + "ent:"
		if !stands {
			refuses(t, body, 10, api.ErrByte)
			refuses(t, line, 12, api.ErrByte)
			refuses(t, line+" ", 12, api.ErrByte)
			refuses(t, first, 0, api.ErrByte)
			refuses(t, inName, 16, api.ErrByte)
			continue
		}
		cuts(t, body, 6, 0, 8, 14, 2, 14, 25, 29)
		refuses(t, first, 0, api.ErrField)
		refuses(t, inName, 12, api.ErrField)
		if strings.Contains("\t\n\r ", b) {
			cuts(t, line, 2, 0, 11, 13)
			cuts(t, line+" ", 2, 0, 11, 14)
		} else {
			refuses(t, line, 12, api.ErrField)
			refuses(t, line+" ", 12, api.ErrField)
		}
	}
}

// P13.1: ErrByte, at the first such byte, stands ahead of whatever the lines tell.
func TestErrByteFirst(t *testing.T) {
	for _, b := range append(foreign(), "\x00", "\x08", "\x0b", "\x0c", "\x0e", "\x1f", "\x7f", "\x80", "\xff") {
		for _, text := range []string{"", " ", "x", "Comment:\n", "Authorizer:\nAuthorizer:\n", "Authorizer:\nKeyNote-Version:\n", "Signature:\nAuthorizer:\n", "Authorizer:\n"} {
			refuses(t, text+b, len(text), api.ErrByte)
			refuses(t, text+b+"x\x00\n", len(text), api.ErrByte)
			refuses(t, b+text+b, 0, api.ErrByte)
		}
	}
}

// P13.1: of ErrField, ErrTwice and ErrOrder the first line's counts, in a line the first of these; ErrMissing is the last.
func TestFirstError(t *testing.T) {
	refuses(t, "Comment:\nComment:\nx\n", 9, api.ErrTwice)
	refuses(t, "Comment:\nx\nComment:\n", 9, api.ErrField)
	refuses(t, "Comment:\nKeyNote-Version:\nx\n", 9, api.ErrOrder)
	refuses(t, "Comment:\nKeyNote-Version:\nComment:\n", 9, api.ErrOrder)
	refuses(t, "Comment:\nComment:\nKeyNote-Version:\n", 9, api.ErrTwice)
	refuses(t, "KeyNote-Version:\nKeyNote-Version:\n", 17, api.ErrTwice)
	refuses(t, "KeyNote-Version:\nSignature:\nKeyNote-Version:\n", 28, api.ErrTwice)
	refuses(t, "Signature:\nSignature:\n", 11, api.ErrTwice)
	refuses(t, "Authorizer:\nSignature:\nAuthorizer:\n", 23, api.ErrTwice)
	refuses(t, "Authorizer:\nSignature:\nComment:\n", 23, api.ErrOrder)
	refuses(t, "Authorizer:\nSignature:\nKeyNote-Version:\n", 23, api.ErrOrder)
	refuses(t, "Signature:\nx\n", 11, api.ErrField)
	refuses(t, "Signature:", 10, api.ErrMissing)
	refuses(t, "KeyNote-Version: 2\n\n ", 21, api.ErrMissing)
	refuses(t, "Comment:\n Authorizer:\n", 22, api.ErrMissing)
}

// P13.1: ErrLimit with more than 65536 bytes, ahead of all else.
func TestLimit(t *testing.T) {
	head := "Authorizer:"
	most := head + strings.Repeat("x", mostBytes-len(head))
	cuts(t, most, 2, 0, 11, mostBytes)
	cuts(t, most[:mostBytes-1], 2, 0, 11, mostBytes-1)
	cuts(t, most[:mostBytes-1]+"\n", 2, 0, 11, mostBytes)
	refuses(t, most[:mostBytes-1]+"\x00", mostBytes-1, api.ErrByte)
	refuses(t, most[:mostBytes-2]+"\nx", mostBytes-1, api.ErrField)
	refuses(t, strings.Repeat("x", mostBytes), 0, api.ErrField)
	refuses(t, "Comment:"+most[:mostBytes-8], mostBytes, api.ErrMissing)
	for _, text := range []string{most + "x", most + "\n", most + "\x00", most + most, strings.Repeat("\x00", mostBytes+1), strings.Repeat("x", mostBytes+1), strings.Repeat("\n", mostBytes+1), most + "\nAuthorizer:", "Comment:" + most} {
		refuses(t, text, 0, api.ErrLimit)
	}
	lines := head + strings.Repeat("\n", mostBytes-len(head))
	cuts(t, lines, 2, 0, 11, mostBytes)
	long := strings.Repeat("\n :", (mostBytes-len(head)-9)/3)
	cuts(t, head+long+"\nComment:", 2, 0, 11, len(head+long)+1, 6, len(head+long)+1, len(head+long)+9, len(head+long)+9)
}

// P13.1: over all rows of up to five fields, each kind however often.
func TestRows(t *testing.T) {
	var lines []string
	for _, name := range fieldNames()[1:] {
		lines = append(lines, name+":\n")
	}
	good := 0
	for n := range 6 {
		all(lines, n, func(text string) {
			if holds(t, text) == api.OK {
				good++
			}
		})
	}
	if good != 4*1+4*8+4*36+3*96+120 { // by how many fields stand between a KeyNote-Version and a Signature, or without either
		t.Errorf("%d rows have an assertion's fields", good)
	}
}

// P13.1: over all texts of up to five pieces.
func TestAllTexts(t *testing.T) {
	pieces := []string{"Authorizer:", "comment:", "Signature:", "KEYNOTE-version:", "Authorizer", "\n", " ", "\r", "\t", "x", ":", "\x7f"}
	seen := map[api.Errno]int{}
	for n := range 6 {
		all(pieces, n, func(text string) { seen[holds(t, text)]++ })
	}
	for _, e := range []api.Errno{api.OK, api.ErrByte, api.ErrField, api.ErrTwice, api.ErrOrder, api.ErrMissing} {
		if seen[e] < 20 {
			t.Errorf("only %d texts with error %d", seen[e], e)
		}
	}
}

// P13.1: drawn texts that have fields, as they are and with a byte changed, put in or left out.
func TestDrawn(t *testing.T) {
	r := rand.New(rand.NewSource(131))
	const signs = "\n\n\n \t\r:xXaA-\x00\x7f\x80"
	seen := map[api.Errno]int{}
	for range 40000 {
		text := drawnText(r)
		if e := holds(t, text); e != api.OK {
			t.Fatalf("%q: error %d", text, e)
		}
		at, sign := r.Intn(len(text)), signs[r.Intn(len(signs))]
		for _, other := range []string{text[:at] + string([]byte{sign}) + text[at+1:], text[:at] + string([]byte{sign}) + text[at:], text[:at] + text[at+1:], text[at:], text[:at], text + text, text + text[at:]} {
			seen[holds(t, other)]++
		}
	}
	for _, e := range []api.Errno{api.OK, api.ErrByte, api.ErrField, api.ErrTwice, api.ErrOrder, api.ErrMissing} {
		if seen[e] < 100 {
			t.Errorf("only %d texts with error %d", seen[e], e)
		}
	}
}
