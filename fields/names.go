package fields

import "vouch/api"

// nameOf tells the name of a kind; an empty text, if there is no such kind.
func nameOf(kind uint8) string {
	switch kind {
	case api.FieldVersion:
		return "KeyNote-Version"
	case api.FieldAuthor:
		return "Authorizer"
	case api.FieldLics:
		return "Licensees"
	case api.FieldConsts:
		return "Local-Constants"
	case api.FieldConds:
		return "Conditions"
	case api.FieldComment:
		return "Comment"
	case api.FieldSignature:
		return "Signature"
	}
	return ""
}

// alike: are two texts the same but for their letters' case? The library's way would take letters of other alphabets for those of a to z.
func alike(a, b string) bool {
	if len(a) != len(b) {
		return false
	}
	for i := range len(a) {
		if small(a[i]) != small(b[i]) {
			return false
		}
	}
	return true
}

// small tells the small letter for a great one, any other byte as it is.
func small(b byte) byte {
	if b >= 'A' && b <= 'Z' {
		return b - 'A' + 'a'
	}
	return b
}
