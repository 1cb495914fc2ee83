package figure_test

import (
	"math"
	"math/big"
	"math/rand"
	"regexp"
	"strings"
	"testing"

	"breviary/api"
	"breviary/figure"
)

const unit = api.Unit

var (
	nan   = api.Dec{Tag: api.NaN}
	over  = api.Dec{Tag: api.Over}
	under = api.Dec{Tag: api.Under}
)

// m is so many millionths.
func m(v int64) api.Dec { return api.Dec{V: v} }

// wrong is what may not be.
var wrong = []api.Dec{
	{Tag: api.Num, V: math.MinInt64}, {Tag: api.NaN, V: 1}, {Tag: api.NaN, V: -unit}, {Tag: api.NaN, V: math.MinInt64},
	{Tag: api.Over, V: 1}, {Tag: api.Over, V: math.MaxInt64}, {Tag: api.Over, V: math.MinInt64}, {Tag: api.Under, V: -1}, {Tag: api.Under, V: unit},
	{Tag: 4}, {Tag: 4, V: unit}, {Tag: 5, V: -7}, {Tag: 7}, {Tag: -1}, {Tag: -1, V: 3}, {Tag: math.MaxInt}, {Tag: math.MinInt, V: math.MinInt64}, {Tag: 1 << 32, V: unit}, {Tag: 1<<32 + api.Over},
}

// eachNum tells many numbers: all near 0, those near powers of ten, at the bounds, and of all sizes.
func eachNum(yield func(v int64) bool) {
	both := func(v int64) bool { return yield(v) && yield(-v) }
	for v := range int64(30000) {
		if !both(v) || !both(v*997) || !both(math.MaxInt64-v) || !both(math.MaxInt64-v*unit) {
			return
		}
	}
	for ten := int64(1); ten <= math.MaxInt64/10; ten *= 10 {
		for n := range int64(10) {
			if !both(n*ten) || !both(n*ten+1) || !both(n*ten-1) || !both(n*ten+unit/2) {
				return
			}
		}
	}
	r := rand.New(rand.NewSource(4))
	for range 200000 {
		if v := r.Int63() >> r.Intn(63); !both(v) || !both(v/unit*unit) || !both(v/1000*1000) {
			return
		}
	}
}

// The chapter's words once more, by patterns and by whole numbers without bounds, to hold the package against.

// words is how so many millionths are told.
func words(v int64) string {
	digits := new(big.Int).Abs(big.NewInt(v)).String()
	if lack := 7 - len(digits); lack > 0 {
		digits = strings.Repeat("0", lack) + digits
	}
	cut := len(digits) - 6
	s := strings.TrimSuffix(digits[:cut]+"."+strings.TrimRight(digits[cut:], "0"), ".")
	if v < 0 {
		return "-" + s
	}
	return s
}

const literal = `(?:([0-9]+)(?:\.([0-9]*))?|\.([0-9]+))`

var (
	literals = regexp.MustCompile(`^()` + literal + `$`)
	readable = regexp.MustCompile(`^[\x09\x0A\x0D\x20]*(-?)` + literal + `[\x09\x0A\x0D\x20]*$`)
)

// tells is what a text tells, if it is of a form.
func tells(form *regexp.Regexp, s string) (api.Dec, bool) {
	found := form.FindStringSubmatch(s)
	if found == nil {
		return m(0), false
	}
	part := (found[3] + found[4] + "000000")[:6]
	v, _ := new(big.Int).SetString(found[2]+part, 10)
	below := found[1] == "-"
	switch {
	case !v.IsInt64() && below:
		return under, true
	case !v.IsInt64():
		return over, true
	case below:
		return m(-v.Int64()), true
	}
	return m(v.Int64()), true
}

// holds holds Lit and Read of a text against what they are to be.
func holds(t *testing.T, s string) {
	t.Helper()
	want, wanted := tells(literals, s)
	if got, ok := figure.Lit(s); got != want || ok != wanted {
		t.Errorf("Lit(%.60q) = %v, %v, not %v, %v", s, got, ok, want, wanted)
	}
	want, wanted = tells(readable, s)
	if !wanted {
		want = nan
	}
	got := figure.Read(s)
	if got != want {
		t.Errorf("Read(%.60q) = %v, not %v", s, got, want)
	}
	if got != over && got != under && figure.Read(figure.Show(got)) != got { // P4.3
		t.Errorf("%.60q tells %v, and shown and read %v", s, got, figure.Read(figure.Show(got)))
	}
}

// P4.1

func TestShow(t *testing.T) {
	for d, want := range map[api.Dec]string{
		m(0): "0", m(unit): "1", m(-unit): "-1", m(10 * unit): "10", m(-10 * unit): "-10", m(100 * unit): "100", m(2500000): "2.5", m(-2500000): "-2.5",
		m(1): "0.000001", m(-1): "-0.000001", m(10): "0.00001", m(100): "0.0001", m(1000): "0.001", m(10000): "0.01", m(100000): "0.1", m(-100000): "-0.1", m(999999): "0.999999", m(-999999): "-0.999999",
		m(unit + 1): "1.000001", m(1010101): "1.010101", m(1020300): "1.0203", m(100250000): "100.25", m(-100250000): "-100.25", m(1234567): "1.234567", m(1000000000001): "1000000.000001", m(unit * unit): "1000000",
		m(math.MaxInt64): "9223372036854.775807", m(-math.MaxInt64): "-9223372036854.775807", m(math.MinInt64 + 1): "-9223372036854.775807", m(math.MaxInt64 - 7): "9223372036854.7758", m(9223372036854000000): "9223372036854", m(-9000000000000000000): "-9000000000000",
		nan: "NaN", over: "Infinity", under: "-Infinity",
	} {
		if got := figure.Show(d); got != want {
			t.Errorf("Show(%v) = %q, not %q", d, got, want)
		}
	}
}

func TestShowOfWhatMayNotBe(t *testing.T) {
	for _, d := range wrong {
		if got := figure.Show(d); got != "NaN" {
			t.Errorf("Show(%v) = %q", d, got)
		}
	}
}

func TestShowOfAllSizes(t *testing.T) {
	shape := regexp.MustCompile(`^-?(0|[1-9][0-9]*)(\.[0-9]{0,5}[1-9])?$`)
	for v := range eachNum {
		got := figure.Show(m(v))
		if got != words(v) || !shape.MatchString(got) || got == "-0" {
			t.Fatalf("Show(%d) = %q, not %q", v, got, words(v))
		}
	}
}

// P4.2

func TestLit(t *testing.T) {
	for s, want := range map[string]api.Dec{
		"0": m(0), "1": m(unit), "9": m(9 * unit), "10": m(10 * unit), "007": m(7 * unit), "000": m(0), "2.5": m(2500000), "1.": m(unit), "0.": m(0), "00.": m(0), ".5": m(500000), ".0": m(0), "0.0": m(0), "00.50": m(500000),
		".000001": m(1), "0.000001": m(1), ".0000009": m(0), "0.0000019": m(1), "1.0000019": m(unit + 1), "1.9999999": m(1999999), ".9999999": m(999999), "0.10": m(100000), "0.1000000": m(100000), "123456.789": m(123456789000),
		"9223372036854.775807": m(math.MaxInt64), "9223372036854.775806": m(math.MaxInt64 - 1), "9223372036854": m(9223372036854000000), "9223372036854.": m(9223372036854000000), "0009223372036854.775807": m(math.MaxInt64),
		"9223372036854.77580799999999999999": m(math.MaxInt64), "9223372036854.7758070": m(math.MaxInt64), "9223372036854.7": m(9223372036854700000), "8999999999999.999999": m(8999999999999999999),
		"9223372036854.775808": over, "9223372036854.775809": over, "9223372036854.77581": over, "9223372036854.776": over, "9223372036854.8": over, "9223372036855": over, "9223372036855.": over, "9223372036860": over, "10000000000000": over,
		"9223372036854775807": over, "9223372036854775808": over, "18446744073709551616": over, "92233720368547758070": over, "99999999999999999999999999": over,
		"18446744073709.551615": over, "18446744073709.551616": over, "18446744073709.551617": over, "18446744073710": over, "36893488147419.103232": over, "184467440737095.51617": over, // of which the millionths, wrapped round, are few
	} {
		if got, ok := figure.Lit(s); got != want || !ok {
			t.Errorf("Lit(%q) = %v, %v, not %v", s, got, ok, want)
		}
		holds(t, s)
		holds(t, "-"+s)
	}
}

func TestNoLit(t *testing.T) {
	for _, s := range []string{
		"", ".", "..", "-", "-1", "-.5", "-0", "+1", "--1", "1-", "1.-", " 1", "1 ", "\t1", "1\n", "1 2", "1. 5", "1 .5", ". 5", "1..2", "1..", "..1", ".1.", "1.2.", "1.2.3", ".1.2", "...",
		"1e5", "1E5", "1e", "e1", "1.e1", "0x10", "0b1", "1_000", "1,5", "1,000", "1f", "a", "1a", "a1", "1.a", ".a", "NaN", "Infinity", "-Infinity", "inf", "/", ":", "1/", "1:", "0/1",
		"\x00", "1\x00", "\x001", "1.\x00", "\xff", "1\xff", "\xff1", ".\xff", "\u0661", "1\u0661", "\uff11", "1.\uff11", "\u00b2", "\u22121", "1\u00a0", "\u00a01", "1\u066b5",
	} {
		if got, ok := figure.Lit(s); got != m(0) || ok {
			t.Errorf("Lit(%q) = %v, %v", s, got, ok)
		}
		holds(t, s)
	}
}

func TestRead(t *testing.T) {
	for s, want := range map[string]api.Dec{
		" -1.50 ": m(-1500000), ".5": m(500000), "1.": m(unit), "1.0000019": m(unit + 1), "-1.0000019": m(-unit - 1), "-.5": m(-500000), "-1.": m(-unit), "007": m(7 * unit), "-007": m(-7 * unit),
		"0": m(0), "-0": m(0), "-0.": m(0), "-.0": m(0), "-0.0000001": m(0), "-0.000001": m(-1), " 0 ": m(0), "\t1": m(unit), "1\n": m(unit), "\r1\r": m(unit), " \t\r\n-1 \t\r\n": m(-unit), "\n\n\n.25": m(250000),
		"9223372036854.775807": m(math.MaxInt64), "-9223372036854.775807": m(-math.MaxInt64), "-9223372036854.7758079": m(-math.MaxInt64), " 9223372036854.775808": over, "-9223372036854.775808": under, "-9223372036854.775809": under, "-99999999999999999999": under,
		"-9223372036855": under, "-18446744073709.551617": under, "99999999999999999999 ": over,
	} {
		if got := figure.Read(s); got != want {
			t.Errorf("Read(%q) = %v, not %v", s, got, want)
		}
		holds(t, s)
	}
}

func TestReadOfNone(t *testing.T) {
	for _, s := range []string{
		"", " ", "\t\r\n ", ".", "-", "-.", " . ", " - ", "1e5", "+1", "+.5", "-+1", "+-1", "- 1", "-\t1", "-\n.5", "--1", "---1", "1-", "1 -", "1 2", "-1 -2", "1 . 5", "1. 5", "1..2", "1.2.3", "-1.2.3", "NaN", "Infinity", "-Infinity", "- Infinity",
		"1\v", "\f1", "\u00851", "\u00a01", "1\u00a0", "\u20031", "1\u3000", "\ufeff1", "1\u2028", "\u22121", "\u2010" + "1", "\u0661", "-\u0661", "\uff0d1", "0x1", "1_0", "1,0", "1%", "$1", "(1)", "\x001", "1\x00", " \x00 ", "\xa01", "1\x85", "\xff", "-\xff", "1 \xff", "\xc0\xa01",
	} {
		if got := figure.Read(s); got != nan {
			t.Errorf("Read(%q) = %v", s, got)
		}
		holds(t, s)
	}
}

func TestLongTexts(t *testing.T) {
	const many = 100000
	noughts, nines, blanks := strings.Repeat("0", many), strings.Repeat("9", many), strings.Repeat(" \n", many)
	for s, want := range map[string]api.Dec{
		noughts: m(0), noughts + "12": m(12 * unit), noughts + "." + noughts: m(0), "." + noughts + "1": m(0), "." + nines: m(999999), "1." + noughts: m(unit), "-" + noughts + "9223372036854.775807" + nines: m(-math.MaxInt64),
		nines: over, "-" + nines: under, nines + "." + nines: over, noughts + nines: over, "1" + noughts: over, "-1" + noughts + ".": under,
		blanks + "-3" + blanks: m(-3 * unit), blanks: nan, blanks + "1" + blanks + "1": nan, noughts + "x": nan, nines + "..": nan, "." + nines + ".": nan, nines + "e": nan, strings.Repeat("-", many) + "1": nan, strings.Repeat(".", many): nan,
	} {
		if got := figure.Read(s); got != want {
			t.Errorf("Read of %d bytes, %.9q and so on, = %v, not %v", len(s), s, got, want)
		}
		holds(t, s)
	}
}

func TestAllShortBytes(t *testing.T) {
	holds(t, "")
	for a := range 256 {
		one := string([]byte{byte(a)})
		holds(t, one)
		for b := range 256 {
			two := one + string([]byte{byte(b)})
			holds(t, two)
			holds(t, "1"+two)
			holds(t, two+"1")
		}
		if t.Failed() {
			return
		}
	}
}

// All texts of up to five of the bytes that numbers are made of, and of some that they are not made of.
func TestAllShortTexts(t *testing.T) {
	texts := []string{""}
	for range 5 {
		var longer []string
		for _, s := range texts {
			for _, b := range []string{"0", "1", "9", ".", "-", "+", " ", "\n", "e"} {
				holds(t, s+b)
				longer = append(longer, s+b)
			}
		}
		if t.Failed() {
			return
		}
		texts = longer
	}
}

func TestTextsOfAllSizes(t *testing.T) {
	r := rand.New(rand.NewSource(42))
	digits := func(most int) string {
		b := make([]byte, r.Intn(most+1))
		for i := range b {
			b[i] = "0123456789"[r.Intn(10)]
		}
		return string(b)
	}
	some := func(texts ...string) string { return texts[r.Intn(len(texts))] }
	for range 200000 {
		s := some("", " ", "\t\n") + some("", "-") + some("", "0", "000000000") + digits(16) + some("", ".") + digits(9) + some("", " ", "\r ")
		holds(t, s)
		if t.Failed() {
			return
		}
	}
}

// What is just too great, and what is not, by each of its digits.
func TestAtTheBound(t *testing.T) {
	greatest := "9223372036854.775807"
	for i := range greatest {
		for b := byte('0'); b <= '9'; b++ {
			for _, rest := range []string{greatest[i+1:], greatest[i+1:] + "9", "999999", "000000", ".999999", ""} {
				holds(t, greatest[:i]+string(b)+rest)
				holds(t, "-"+greatest[:i]+string(b)+rest)
			}
		}
	}
}

// P4.3

func TestShownAndRead(t *testing.T) {
	for v := range eachNum {
		shown := figure.Show(m(v))
		if got := figure.Read(shown); got != m(v) {
			t.Fatalf("%d is shown as %q, and read as %v", v, shown, got)
		}
		if got, ok := figure.Lit(shown); v >= 0 && (got != m(v) || !ok) {
			t.Fatalf("Lit(%q) = %v, %v", shown, got, ok)
		}
	}
	if got := figure.Read(figure.Show(nan)); got != nan {
		t.Errorf("NaN is read as %v", got)
	}
}

// The words for what does not fit are no literals: by P4.2 they are read as NaN.
func TestWordsAreRead(t *testing.T) {
	for _, d := range append([]api.Dec{over, under}, wrong...) {
		if got := figure.Read(figure.Show(d)); got != nan {
			t.Errorf("Read(%q) = %v", figure.Show(d), got)
		}
	}
}
