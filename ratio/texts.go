package ratio

import (
	"strings"

	"vouch/api"
	"vouch/nat"
	"vouch/whole"
)

// Text tells a ratio in decimal digits (P3.6).
func Text(a api.Ratio) (string, api.Errno) {
	x, e := one(a)
	if e != api.OK {
		return "", e
	}
	text, e := whole.Text(x.Num)
	if x.isWhole() {
		return text, e
	}
	den, e := nat.Text(x.Den)
	return text + "/" + den, e
}

// Parse tells the ratio of decimal digits, perhaps with - ahead, perhaps with a point between (P3.7).
func Parse(s string) (api.Ratio, api.Errno) {
	if len(s) > api.MaxDigits {
		return api.Ratio{}, api.ErrLimit
	}
	digits, neg := strings.CutPrefix(s, "-")
	ahead, behind, point := strings.Cut(digits, ".")
	if ahead == "" || point && behind == "" {
		return api.Ratio{}, api.ErrDigit
	}
	behind = strings.TrimRight(behind, "0")
	num, e := nat.Parse(ahead + behind) // it takes digits alone, no other sign or point
	if e != api.OK {
		return api.Ratio{}, e
	}
	den, e := whole.Pow(whole.Int(10), whole.Int(int64(len(behind))))
	if e != api.OK {
		return api.Ratio{}, e
	}
	return Of(api.Whole{Neg: neg, Abs: num}, den)
}
