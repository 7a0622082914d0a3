package whole

import (
	"strings"

	"vouch/api"
	"vouch/nat"
)

// Text tells a number in decimal digits (P2.7).
func Text(a api.Whole) (string, api.Errno) {
	if !fits(a) {
		return "", api.ErrLimit
	}
	digits, e := nat.Text(a.Abs)
	if Sign(a) < 0 {
		digits = "-" + digits
	}
	return digits, e
}

// Parse tells the number of decimal digits, perhaps with - ahead (P2.7).
func Parse(s string) (api.Whole, api.Errno) {
	if len(s) > api.MaxDigits {
		return api.Whole{}, api.ErrLimit
	}
	digits, neg := strings.CutPrefix(s, "-")
	return maker(neg)(nat.Parse(digits))
}
