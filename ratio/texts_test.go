package ratio_test

import (
	"math/big"
	"math/rand"
	"strings"
	"testing"

	"vouch/api"
	"vouch/ratio"
)

// P3.6
func TestText(t *testing.T) {
	for want, a := range map[string]api.Ratio{"-3/2": small(-6, 4), "2": small(4, 2), "-2": small(-4, 2), "0": small(0, 7), "1/3": small(3, 9), "1": small(5, 5), "10": small(10, 1), "1/10": small(1, 10)} {
		if got, e := ratio.Text(a); e != api.OK || got != want {
			t.Errorf("Text: %s, error %d, want %s", got, e, want)
		}
	}
	r := rand.New(rand.NewSource(21))
	for _, x := range samples(r, 60) {
		for _, a := range forms(of(x)) {
			if got, e := ratio.Text(a); e != api.OK || got != x.RatString() {
				t.Fatalf("Text: %s, error %d, want %s", got, e, x.RatString())
			}
		}
	}
}

// five is 5^n, in decimal digits: over 10^n it is 1 over 2^n.
func five(n int64) string {
	s := new(big.Int).Exp(big.NewInt(5), big.NewInt(n), nil).String()
	return strings.Repeat("0", int(n)-len(s)) + s
}

// P3.7: texts that are read, at the edges.
func TestParse(t *testing.T) {
	noughts := strings.Repeat("0", api.MaxDigits)
	digits := most().String()
	one := big.NewInt(1)
	for what, x := range map[string]struct {
		s    string
		want *big.Rat
	}{
		"a half more than 1":              {"1.50", big.NewRat(3, 2)},
		"a half":                          {"0.5", big.NewRat(1, 2)},
		"below 0":                         {"-2.5", big.NewRat(-5, 2)},
		"just below 0":                    {"-0.5", big.NewRat(-1, 2)},
		"a nought below 0":                {"-0.0", new(big.Rat)},
		"-0":                              {"-0", new(big.Rat)},
		"a nought":                        {"0", new(big.Rat)},
		"0.0":                             {"0.0", new(big.Rat)},
		"noughts ahead":                   {"007", big.NewRat(7, 1)},
		"noughts ahead, below 0":          {"-007.250", big.NewRat(-29, 4)},
		"noughts behind the point":        {"2.000", big.NewRat(2, 1)},
		"noughts at the end of a whole":   {"2000", big.NewRat(2000, 1)},
		"noughts on both sides":           {"2000.000", big.NewRat(2000, 1)},
		"noughts amid what is behind":     {"100.0010", big.NewRat(100001, 1000)},
		"a tenth":                         {"0.1", big.NewRat(1, 10)},
		"more than a limb":                {"123456789012345678901234567890.5", rat(plus(times(plus(times(big.NewInt(123456789012345), ten(15)), 678901234567890), big.NewInt(2)), 1), big.NewInt(2))},
		"the greatest":                    {digits, rat(most(), one)},
		"the least":                       {"-" + digits, rat(minus(most()), one)},
		"the greatest and noughts":        {digits + "." + noughts[:5000], rat(most(), one)},
		"the greatest as digits behind":   {digits[:1] + "." + digits[1:], rat(most(), ten(int64(len(digits)-1)))},
		"the same below 0":                {"-" + digits[:5] + "." + digits[5:], rat(minus(most()), ten(int64(len(digits)-5)))},
		"the most behind the point":       {"0." + noughts[:1232] + "1", rat(one, ten(1233))},
		"the same below 0, noughts":       {"-0." + noughts[:1232] + "70000", rat(big.NewInt(-7), ten(1233))},
		"as many ahead of it":             {"1" + noughts[:1233], rat(ten(1233), one)},
		"as many on both sides":           {"-1" + noughts[:1233] + ".00", rat(minus(ten(1233)), one)},
		"as many that go out":             {"0." + five(1233), rat(one, power(1233))},
		"noughts as many as may be":       {noughts, new(big.Rat)},
		"as many with a point":            {"0." + noughts[2:], new(big.Rat)},
		"as many below 0":                 {"-0." + noughts[3:], new(big.Rat)},
		"as many ahead of the point":      {noughts[3:] + "7.5", big.NewRat(15, 2)},
		"as many behind a digit":          {"-7." + noughts[3:], big.NewRat(-7, 1)},
		"as many behind a digit behind":   {"0.5" + noughts[3:], big.NewRat(1, 2)},
		"as many ahead, and the greatest": {noughts[len(digits):] + digits, rat(most(), one)},
	} {
		got, e := ratio.Parse(x.s)
		if !right(got, e, x.want) {
			t.Errorf("%s: Parse(%.40q): %v, error %d", what, x.s, got, e)
		}
	}
}

// P3.7: texts that are refused, in the order of the errors.
func TestParseRefused(t *testing.T) {
	noughts := strings.Repeat("0", api.MaxDigits)
	past := power(mostBits).String()
	for what, x := range map[string]struct {
		s string
		e api.Errno
	}{
		"nothing":                        {"", api.ErrDigit},
		"a sign alone":                   {"-", api.ErrDigit},
		"a point alone":                  {".", api.ErrDigit},
		"a sign and a point":             {"-.", api.ErrDigit},
		"nothing ahead of the point":     {".5", api.ErrDigit},
		"a sign alone ahead of it":       {"-.5", api.ErrDigit},
		"nothing behind the point":       {"5.", api.ErrDigit},
		"that, below 0":                  {"-5.", api.ErrDigit},
		"two points":                     {"1.2.3", api.ErrDigit},
		"two points at once":             {"1..2", api.ErrDigit},
		"a point at the end too":         {"1.2.", api.ErrDigit},
		"a plus":                         {"+1", api.ErrDigit},
		"a plus behind the point":        {"1.+5", api.ErrDigit},
		"two signs":                      {"--1", api.ErrDigit},
		"a sign behind the point":        {"1.-5", api.ErrDigit},
		"a sign ahead of the point":      {"1-.5", api.ErrDigit},
		"a sign behind":                  {"1.5-", api.ErrDigit},
		"a stroke":                       {"1/2", api.ErrDigit},
		"a comma":                        {"1,5", api.ErrDigit},
		"a power":                        {"1e3", api.ErrDigit},
		"a power behind the point":       {"1.5e3", api.ErrDigit},
		"hex":                            {"0x1", api.ErrDigit},
		"an underscore":                  {"1_0", api.ErrDigit},
		"a blank ahead":                  {" 1.5", api.ErrDigit},
		"a blank behind":                 {"1.5 ", api.ErrDigit},
		"blanks about the point":         {"1 . 5", api.ErrDigit},
		"a line's end":                   {"1.5\n", api.ErrDigit},
		"a byte 0":                       {"1.5\x00", api.ErrDigit},
		"a minus of another script":      {"\u22125", api.ErrDigit},
		"a digit of another script":      {"1.\u0663", api.ErrDigit},
		"bytes that are no text":         {"1.\xff", api.ErrDigit},
		"one past":                       {past, api.ErrLimit},
		"one past below 0":               {"-" + past, api.ErrLimit},
		"one past and noughts":           {past + ".000", api.ErrLimit},
		"one past behind noughts":        {noughts[:100] + past, api.ErrLimit},
		"one past as digits behind":      {"0." + past, api.ErrLimit},
		"one past with the point amid":   {past[:7] + "." + past[7:], api.ErrLimit},
		"noughts that count":             {"1" + noughts[:1234], api.ErrLimit},
		"those and others behind":        {"1" + noughts[:1234] + ".00", api.ErrLimit},
		"the greatest and a digit":       {most().String() + ".1", api.ErrLimit},
		"one too many behind the point":  {"0." + noughts[:1233] + "1", api.ErrLimit},
		"that below 0":                   {"-0." + noughts[:1233] + "1", api.ErrLimit},
		"that and noughts":               {"0." + noughts[:1233] + "1000", api.ErrLimit},
		"what would fit in its form":     {"0." + five(1234), api.ErrLimit},
		"as many nines as may be":        {strings.Repeat("9", api.MaxDigits), api.ErrLimit},
		"as many behind the point":       {"0." + strings.Repeat("9", api.MaxDigits-2), api.ErrLimit},
		"noughts and 1, as many":         {"0." + noughts[3:] + "1", api.ErrLimit},
		"a wrong end of a great one":     {strings.Repeat("9", 3000) + "x", api.ErrDigit},
		"a wrong end behind the point":   {"0." + strings.Repeat("9", 3000) + "x", api.ErrDigit},
		"a point at a great one's end":   {strings.Repeat("9", 3000) + ".", api.ErrDigit},
		"a wrong end, just in":           {"0." + noughts[3:] + "x", api.ErrDigit},
		"a point at the end, just in":    {noughts[1:] + ".", api.ErrDigit},
		"points as many as may be":       {strings.Repeat(".", api.MaxDigits), api.ErrDigit},
		"too long":                       {noughts + "0", api.ErrLimit},
		"too long by its sign":           {"-" + noughts, api.ErrLimit},
		"too long by its point":          {"0." + noughts[1:], api.ErrLimit},
		"too long by noughts behind":     {"1.5" + noughts[2:], api.ErrLimit},
		"too long and no number":         {noughts + "x", api.ErrLimit},
		"too long, and a point at last":  {noughts + ".", api.ErrLimit},
		"too long, signs alone":          {strings.Repeat("-", api.MaxDigits+1), api.ErrLimit},
		"what is read as another number": {"infinity", api.ErrDigit},
	} {
		got, e := ratio.Parse(x.s)
		if e != x.e || !nothing(got) {
			t.Errorf("%s: Parse(%.40q): %v, error %d, want %d", what, x.s, got, e, x.e)
		}
	}
}

// P3.7: every byte at every place.
func TestParseBytes(t *testing.T) {
	for c := range 256 {
		digit := c >= '0' && c <= '9'
		for s, ok := range map[string]bool{
			string([]byte{byte(c)}):                    digit,
			string([]byte{'1', byte(c)}):               digit,
			string([]byte{'1', byte(c), '2'}):          digit || c == '.',
			string([]byte{byte(c), '2'}):               digit || c == '-',
			string([]byte{'-', byte(c)}):               digit,
			string([]byte{'-', '1', byte(c), '5'}):     digit || c == '.',
			string([]byte{'1', '.', byte(c)}):          digit,
			string([]byte{'1', '.', '0', byte(c)}):     digit,
			string([]byte{byte(c), '.', '5'}):          digit,
			string([]byte{'-', byte(c), '.', '5'}):     digit,
			string([]byte{'1', byte(c), '.', '5'}):     digit,
			string([]byte{byte(c), '1', '.', '5'}):     digit || c == '-',
			string([]byte{'1', '.', byte(c), '5'}):     digit,
			string([]byte{'1', '.', '5', byte(c)}):     digit,
			string([]byte{'1', '.', '5', byte(c), 48}): digit,
		} {
			got, e := ratio.Parse(s)
			if ok != (e == api.OK) || !ok && (e != api.ErrDigit || !nothing(got)) {
				t.Errorf("Parse(%q): %v, error %d", s, got, e)
			}
			if want, _ := new(big.Rat).SetString(s); ok && !right(got, e, want) {
				t.Errorf("Parse(%q): %v, error %d, want %v", s, got, e, want)
			}
		}
	}
}

// P3.7: numbers of all sizes, noughts on both sides.
func TestParseMany(t *testing.T) {
	r := rand.New(rand.NewSource(22))
	for range 1500 {
		digits := number(r, 1+r.Intn(mostBits)).String()
		if r.Intn(2) == 0 {
			digits = number(r, 1+r.Intn(80)).String()
		}
		behind := r.Intn(len(digits) + 3)
		digits = strings.Repeat("0", max(0, behind+1-len(digits))) + digits
		s := map[bool]string{true: "-"}[r.Intn(2) == 0] + strings.Repeat("0", r.Intn(3)) + digits[:len(digits)-behind]
		if behind > 0 {
			s += "." + digits[len(digits)-behind:] + strings.Repeat("0", r.Intn(4))
		}
		want, _ := new(big.Rat).SetString(s)
		got, e := ratio.Parse(s)
		check(t, "Parse of "+s, got, e, want)
	}
}
