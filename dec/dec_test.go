package dec_test

import (
	"math"
	"math/big"
	"math/rand"
	"testing"

	"breviary/api"
	"breviary/dec"
)

const unit = api.Unit

var (
	nan   = api.Dec{Tag: api.NaN}
	over  = api.Dec{Tag: api.Over}
	under = api.Dec{Tag: api.Under}
)

// m is so many millionths.
func m(v int64) api.Dec { return api.Dec{V: v} }

// wrong is what may not be.
var wrong = []api.Dec{
	{Tag: api.Num, V: math.MinInt64}, {Tag: api.NaN, V: 1}, {Tag: api.NaN, V: -1}, {Tag: api.NaN, V: math.MinInt64},
	{Tag: api.Over, V: 1}, {Tag: api.Over, V: math.MaxInt64}, {Tag: api.Under, V: -1}, {Tag: api.Under, V: unit},
	{Tag: 4}, {Tag: 4, V: unit}, {Tag: 5, V: -7}, {Tag: -1}, {Tag: -1, V: 3}, {Tag: math.MaxInt}, {Tag: math.MinInt, V: math.MinInt64}, {Tag: 1 << 32}, {Tag: 1<<32 + api.Over},
}

// greatest is the greatest whole number that fits, in millionths.
const greatest = math.MaxInt64 / unit * unit

// nums is numbers above 0 at which reckoning may go wrong, and ordinary ones.
var nums = []int64{
	1, 2, 3, 7, 10, 499999, 500000, 500001, 999998, 999999, unit, unit + 1, 1500000, 2 * unit, 2499999, 2500000, 2500001, 3 * unit, 5 * unit, 7 * unit, 10 * unit, 123456789,
	math.MaxInt32, 1 << 31, math.MaxUint32, 1 << 32, 3037000499, 3037000500, 3037000499976, 3037000500000, 3037000500001, 1 << 61, 1 << 62, 1<<62 + 1, 1<<62 - 1,
	math.MaxInt64 / unit, math.MaxInt64/unit + 1, math.MaxInt64/3 + 1, math.MaxInt64 / 2, math.MaxInt64/2 + 1,
	greatest - unit, greatest - 500001, greatest - 500000, greatest - 499999, greatest - 1, greatest, greatest + 1, greatest + 275807, greatest + 275808, greatest + 499999, greatest + 500000, greatest + 500001,
	math.MaxInt64 - unit, math.MaxInt64 - 500000, math.MaxInt64 - 499999, math.MaxInt64 - 2, math.MaxInt64 - 1, math.MaxInt64,
}

// all tells all of them, and the other way round, 0, and what is none or may not be.
func all() []api.Dec {
	out := []api.Dec{nan, over, under, m(0)}
	out = append(out, wrong...)
	for _, v := range nums {
		out = append(out, m(v), m(-v))
	}
	return out
}

// The chapter's words once more, by whole numbers without bounds, to hold the package against.

// is tells whether a number is one at all, beside Over and Under.
func is(d api.Dec) bool { return d.Tag == api.Num && d.V != math.MinInt64 }

// known tells whether a number is one, or Over, or Under.
func known(d api.Dec) bool { return is(d) || d == over || d == under }

// wide is a number without bounds.
func wide(d api.Dec) *big.Int { return big.NewInt(d.V) }

// fit is so many millionths, if they fit.
func fit(v *big.Int) api.Dec {
	most := big.NewInt(math.MaxInt64)
	switch {
	case v.CmpAbs(most) <= 0:
		return m(v.Int64())
	case v.Sign() > 0:
		return over
	}
	return under
}

// sign is -1, 0 or 1, as a known number is below, at, or above 0.
func sign(d api.Dec) int {
	switch {
	case d == over:
		return 1
	case d == under:
		return -1
	}
	return wide(d).Sign()
}

// past is Over, 0's NaN, or Under, by a sign.
func past(sign int) api.Dec {
	return []api.Dec{under, nan, over}[sign+1]
}

func add(a, b api.Dec) api.Dec {
	switch {
	case !known(a) || !known(b):
		return nan
	case is(a) && is(b):
		return fit(new(big.Int).Add(wide(a), wide(b)))
	case is(b) || a == b:
		return a
	case is(a):
		return b
	}
	return nan
}

func neg(d api.Dec) api.Dec {
	switch {
	case !known(d):
		return nan
	case is(d):
		return m(-d.V)
	}
	return past(-sign(d))
}

func mul(a, b api.Dec) api.Dec {
	switch {
	case !known(a) || !known(b):
		return nan
	case is(a) && is(b):
		p := new(big.Int).Mul(wide(a), wide(b))
		return fit(p.Quo(p, big.NewInt(unit)))
	}
	return past(sign(a) * sign(b))
}

func div(a, b api.Dec) api.Dec {
	switch {
	case !known(a) || !known(b) || !is(a) && !is(b):
		return nan
	case is(a) && !is(b):
		return m(0)
	case !is(a) && sign(b) == 0:
		return a
	case !is(a):
		return past(sign(a) * sign(b))
	case sign(b) == 0:
		return past(sign(a))
	}
	p := new(big.Int).Mul(wide(a), big.NewInt(unit))
	return fit(p.Quo(p, wide(b)))
}

func mod(a, b api.Dec) api.Dec {
	switch {
	case !is(a) || !known(b) || sign(b) == 0:
		return nan
	case !is(b):
		return a
	}
	times := new(big.Int).Quo(wide(a), wide(b))
	return fit(new(big.Int).Sub(wide(a), times.Mul(times, wide(b))))
}

func compare(a, b api.Dec) (int, bool) {
	switch {
	case !known(a) || !known(b):
		return 0, false
	case is(a) && is(b):
		return wide(a).Cmp(wide(b)), true
	case a == b:
		return 0, true
	case a == under || b == over:
		return -1, true
	}
	return 1, true
}

// whole is the whole number that stands a number of millionths above d, or below that.
func whole(d api.Dec, above int64) api.Dec {
	switch {
	case !known(d):
		return nan
	case !is(d):
		return d
	}
	v := new(big.Int).Add(wide(d), big.NewInt(above))
	v.Div(v, big.NewInt(unit)) // down, below 0 too
	return fit(v.Mul(v, big.NewInt(unit)))
}

// holds holds a call of two numbers against what it is to be.
func holds(t *testing.T, name string, got, want func(a, b api.Dec) api.Dec) {
	t.Helper()
	check := func(a, b api.Dec) {
		if g, w := got(a, b), want(a, b); g != w {
			t.Errorf("%s(%v, %v) = %v, not %v", name, a, b, g, w)
		}
	}
	for _, a := range all() {
		for _, b := range all() {
			check(a, b)
		}
	}
	for a, b := range somePairs {
		check(a, b)
		if t.Failed() {
			return
		}
	}
}

// somePairs tells many pairs, of all sizes, the same ones each time.
func somePairs(yield func(a, b api.Dec) bool) {
	r := rand.New(rand.NewSource(3))
	some := func() api.Dec {
		return m(int64(r.Uint64()) >> r.Intn(64))
	}
	for range 200000 {
		if !yield(some(), some()) {
			return
		}
	}
}

// row is two numbers, and what comes of them.
type row struct{ a, b, want api.Dec }

func rows(t *testing.T, name string, call func(a, b api.Dec) api.Dec, table []row) {
	t.Helper()
	for _, x := range table {
		if got := call(x.a, x.b); got != x.want {
			t.Errorf("%s(%v, %v) = %v, not %v", name, x.a, x.b, got, x.want)
		}
	}
}

// P3.1

func TestRight(t *testing.T) {
	for _, d := range []api.Dec{nan, over, under, m(0), m(1), m(-1), m(math.MaxInt64), m(-math.MaxInt64), m(math.MinInt64 + 1), m(unit)} {
		if !dec.Right(d) {
			t.Errorf("Right(%v) is false", d)
		}
	}
	for _, d := range wrong {
		if dec.Right(d) {
			t.Errorf("Right(%v) is true", d)
		}
	}
}

func TestInt(t *testing.T) {
	for n, want := range map[int]api.Dec{
		0: m(0), 1: m(1000000), -1: m(-1000000), 7: m(7000000), -120: m(-120000000), 4000000: m(4000000000000),
		9223372036854: m(9223372036854000000), -9223372036854: m(-9223372036854000000), 9223372036855: over, -9223372036855: under,
		18446744073709: over, 18446744073710: over, -18446744073710: under, // of which the millionths, wrapped round, are few
		math.MaxInt: over, math.MinInt: under, math.MinInt + 1: under, 1 << 62: over, -1 << 62: under, 1 << 44: over,
	} {
		if got := dec.Int(n); got != want {
			t.Errorf("Int(%d) = %v, not %v", n, got, want)
		}
	}
}

func TestIntOfAllSizes(t *testing.T) {
	for a := range somePairs {
		n := int(a.V)
		want := fit(new(big.Int).Mul(big.NewInt(a.V), big.NewInt(unit)))
		if got := dec.Int(n); got != want {
			t.Fatalf("Int(%d) = %v, not %v", n, got, want)
		}
	}
}

func TestNeg(t *testing.T) {
	for d, want := range map[api.Dec]api.Dec{
		m(0): m(0), m(1): m(-1), m(-1): m(1), m(math.MaxInt64): m(-math.MaxInt64), m(-math.MaxInt64): m(math.MaxInt64), over: under, under: over, nan: nan,
	} {
		if got := dec.Neg(d); got != want {
			t.Errorf("Neg(%v) = %v, not %v", d, got, want)
		}
	}
	for _, d := range all() {
		if got := dec.Neg(d); got != neg(d) {
			t.Errorf("Neg(%v) = %v, not %v", d, got, neg(d))
		}
	}
}

// P3.2

func TestAdd(t *testing.T) {
	rows(t, "Add", dec.Add, []row{
		{m(100000), m(200000), m(300000)}, {m(5), m(-7), m(-2)}, {m(-5), m(7), m(2)}, {m(-5), m(5), m(0)}, {m(0), m(0), m(0)},
		{m(math.MaxInt64), m(0), m(math.MaxInt64)}, {m(math.MaxInt64), m(1), over}, {m(math.MaxInt64 - 1), m(1), m(math.MaxInt64)}, {m(math.MaxInt64), m(math.MaxInt64), over},
		{m(-math.MaxInt64), m(0), m(-math.MaxInt64)}, {m(-math.MaxInt64), m(-1), under}, {m(1 - math.MaxInt64), m(-1), m(-math.MaxInt64)}, {m(-math.MaxInt64), m(-math.MaxInt64), under},
		{m(math.MaxInt64), m(-math.MaxInt64), m(0)}, {over, under, nan}, {under, over, nan}, {over, over, over}, {under, under, under},
		{over, m(-math.MaxInt64), over}, {m(-1), over, over}, {under, m(math.MaxInt64), under}, {m(1), under, under},
	})
	holds(t, "Add", dec.Add, add)
}

func TestSub(t *testing.T) {
	rows(t, "Sub", dec.Sub, []row{
		{m(300000), m(100000), m(200000)}, {m(0), m(7), m(-7)}, {m(0), m(0), m(0)}, {m(-math.MaxInt64), m(1), under}, {m(math.MaxInt64), m(-1), over},
		{m(math.MaxInt64), m(math.MaxInt64), m(0)}, {over, over, nan}, {under, under, nan}, {over, under, over}, {under, over, under},
		{m(1), over, under}, {m(1), under, over}, {over, m(1), over}, {under, m(-1), under}, {m(1), m(math.MinInt64), nan},
	})
	holds(t, "Sub", dec.Sub, func(a, b api.Dec) api.Dec { return add(a, neg(b)) })
}

func TestMul(t *testing.T) {
	rows(t, "Mul", dec.Mul, []row{
		{m(1500000), m(1500000), m(2250000)}, {m(2 * unit), m(-3 * unit), m(-6 * unit)}, {m(-2 * unit), m(-3 * unit), m(6 * unit)},
		{m(1), m(1), m(0)}, {m(-1), m(1), m(0)}, {m(1), m(999999), m(0)}, {m(-1), m(999999), m(0)}, {m(3), m(500000), m(1)}, {m(-3), m(500000), m(-1)}, {m(1000), m(1000), m(1)}, {m(0), m(-5), m(0)},
		{m(math.MaxInt64), m(unit), m(math.MaxInt64)}, {m(math.MaxInt64), m(unit + 1), over}, {m(math.MaxInt64), m(-unit - 1), under}, {m(-math.MaxInt64), m(-unit - 1), over},
		{m(math.MaxInt64), m(math.MaxInt64), over}, {m(-math.MaxInt64), m(math.MaxInt64), under}, {m(math.MaxInt64), m(1), m(9223372036854)}, {m(1 << 62), m(2 * unit), over}, {m(-1 << 62), m(2 * unit), under},
		{m(18446744073709), m(500000000000), m(9223372036854500000)}, {m(18446744073710), m(500000000000), over},
		{over, m(1), over}, {over, m(-1), under}, {under, m(1), under}, {under, m(-1), over}, {m(1), over, over}, {m(-1), over, under}, {m(1), under, under}, {m(-1), under, over},
		{over, over, over}, {under, under, over}, {over, under, under}, {under, over, under}, {over, m(0), nan}, {m(0), over, nan}, {under, m(0), nan}, {m(0), under, nan},
	})
	holds(t, "Mul", dec.Mul, mul)
}

// What does not fit by less than a millionth is cut, and fits.
func TestMulAtTheBound(t *testing.T) {
	least := new(big.Int).Mul(big.NewInt(math.MaxInt64), big.NewInt(unit)) // the least product that comes to the greatest number
	least.Add(least, big.NewInt(unit-1))                                   // and the greatest one
	for f := int64(unit + 1); f < unit+3000; f++ {
		v := new(big.Int).Div(least, big.NewInt(f)).Int64()
		for _, x := range []int64{v - 1, v, v + 1} {
			for _, s := range []int64{-1, 1} {
				if got, want := dec.Mul(m(x), m(s*f)), mul(m(x), m(s*f)); got != want {
					t.Fatalf("Mul(%d, %d) = %v, not %v", x, s*f, got, want)
				}
			}
		}
	}
}

// P3.3

func TestDiv(t *testing.T) {
	rows(t, "Div", dec.Div, []row{
		{m(unit), m(3 * unit), m(333333)}, {m(-unit), m(3 * unit), m(-333333)}, {m(unit), m(-3 * unit), m(-333333)}, {m(-unit), m(-3 * unit), m(333333)}, {m(2 * unit), m(3 * unit), m(666666)}, {m(-2 * unit), m(3 * unit), m(-666666)},
		{m(6 * unit), m(2 * unit), m(3 * unit)}, {m(0), m(7), m(0)}, {m(0), m(-7), m(0)}, {m(1), m(2 * unit), m(0)}, {m(-1), m(2 * unit), m(0)}, {m(1), m(1), m(unit)}, {m(-1), m(1), m(-unit)},
		{m(unit), m(0), over}, {m(1), m(0), over}, {m(-unit), m(0), under}, {m(-1), m(0), under}, {m(0), m(0), nan},
		{m(math.MaxInt64), m(unit), m(math.MaxInt64)}, {m(math.MaxInt64), m(-unit), m(-math.MaxInt64)}, {m(math.MaxInt64), m(unit - 1), over}, {m(math.MaxInt64), m(1 - unit), under},
		{m(math.MaxInt64), m(1), over}, {m(-math.MaxInt64), m(1), under}, {m(-math.MaxInt64), m(-1), over}, {m(9223372036854), m(1), m(9223372036854000000)}, {m(9223372036855), m(1), over}, {m(9223372036855), m(-1), under}, {m(18446744073710), m(1), over},
		{m(math.MaxInt64), m(math.MaxInt64), m(unit)}, {m(1), m(math.MaxInt64), m(0)},
		{m(unit), over, m(0)}, {m(-unit), over, m(0)}, {m(unit), under, m(0)}, {m(-unit), under, m(0)}, {m(0), over, m(0)}, {m(0), under, m(0)},
		{over, m(1), over}, {over, m(-1), under}, {under, m(1), under}, {under, m(-1), over}, {over, m(0), over}, {under, m(0), under},
		{over, over, nan}, {over, under, nan}, {under, over, nan}, {under, under, nan},
	})
	holds(t, "Div", dec.Div, div)
}

// A quotient, too, is cut ahead of being too great.
func TestDivAtTheBound(t *testing.T) {
	for f := int64(unit - 3000); f < unit; f++ {
		v := new(big.Int).Mul(big.NewInt(math.MaxInt64), big.NewInt(f))
		least := v.Div(v, big.NewInt(unit)).Int64()
		for _, x := range []int64{least - 1, least, least + 1, least + 2} {
			for _, s := range []int64{-1, 1} {
				if got, want := dec.Div(m(s*x), m(f)), div(m(s*x), m(f)); got != want {
					t.Fatalf("Div(%d, %d) = %v, not %v", s*x, f, got, want)
				}
			}
		}
	}
}

func TestMod(t *testing.T) {
	rows(t, "Mod", dec.Mod, []row{
		{m(5 * unit), m(2 * unit), m(unit)}, {m(5 * unit), m(-2 * unit), m(unit)}, {m(-5 * unit), m(2 * unit), m(-unit)}, {m(-5 * unit), m(-2 * unit), m(-unit)}, {m(1500000), m(500000), m(0)}, {m(-1500000), m(500000), m(0)},
		{m(1100000), m(300000), m(200000)}, {m(2), m(5), m(2)}, {m(-2), m(5), m(-2)}, {m(0), m(5), m(0)}, {m(0), m(-5), m(0)}, {m(math.MaxInt64), m(1), m(0)}, {m(math.MaxInt64), m(2), m(1)}, {m(-math.MaxInt64), m(-1), m(0)},
		{m(math.MaxInt64), m(10), m(7)}, {m(-math.MaxInt64), m(10), m(-7)}, {m(1), m(math.MaxInt64), m(1)}, {m(math.MaxInt64), m(-math.MaxInt64), m(0)},
		{m(unit), m(0), nan}, {m(0), m(0), nan}, {m(-unit), m(0), nan}, {m(unit), over, m(unit)}, {m(-unit), over, m(-unit)}, {m(unit), under, m(unit)}, {m(-unit), under, m(-unit)}, {m(0), over, m(0)}, {m(0), under, m(0)},
		{over, m(unit), nan}, {over, m(-unit), nan}, {over, m(0), nan}, {under, m(unit), nan}, {under, m(-unit), nan}, {under, m(0), nan}, {over, over, nan}, {over, under, nan}, {under, over, nan}, {under, under, nan},
	})
	holds(t, "Mod", dec.Mod, mod)
}

// P3.4

func TestNoneWithAll(t *testing.T) {
	for _, bad := range append([]api.Dec{nan}, wrong...) {
		for _, d := range all() {
			for k, call := range []func(a, b api.Dec) api.Dec{dec.Add, dec.Sub, dec.Mul, dec.Div, dec.Mod} {
				if x, y := call(bad, d), call(d, bad); x != nan || y != nan {
					t.Errorf("call %d of %v and %v: %v, and turned round %v", k, bad, d, x, y)
				}
			}
			for _, p := range [][2]api.Dec{{bad, d}, {d, bad}} {
				if c, ok := dec.Cmp(p[0], p[1]); c != 0 || ok {
					t.Errorf("Cmp(%v, %v) = %d, %v", p[0], p[1], c, ok)
				}
			}
		}
		for k, call := range []func(api.Dec) api.Dec{dec.Neg, dec.Floor, dec.Ceil, dec.Round} {
			if got := call(bad); got != nan {
				t.Errorf("call %d of %v: %v", k, bad, got)
			}
		}
	}
}

func TestCmp(t *testing.T) {
	rising := []api.Dec{under, m(-math.MaxInt64), m(1 - math.MaxInt64), m(-unit - 1), m(-unit), m(-1), m(0), m(1), m(unit), m(unit + 1), m(math.MaxInt64 - 1), m(math.MaxInt64), over}
	for i, a := range rising {
		for j, b := range rising {
			want := 0
			if i < j {
				want = -1
			} else if i > j {
				want = 1
			}
			if got, ok := dec.Cmp(a, b); got != want || !ok {
				t.Errorf("Cmp(%v, %v) = %d, %v, not %d", a, b, got, ok, want)
			}
		}
	}
}

func TestCmpOfAllSizes(t *testing.T) {
	check := func(a, b api.Dec) {
		got, ok := dec.Cmp(a, b)
		if want, wanted := compare(a, b); got != want || ok != wanted {
			t.Errorf("Cmp(%v, %v) = %d, %v, not %d, %v", a, b, got, ok, want, wanted)
		}
	}
	for _, a := range all() {
		for _, b := range all() {
			check(a, b)
		}
	}
	for a, b := range somePairs {
		check(a, b)
		check(a, a)
	}
}

// P3.5

func TestFloorCeilRound(t *testing.T) {
	for _, x := range []struct{ d, floor, ceil, round api.Dec }{
		{m(0), m(0), m(0), m(0)}, {m(unit), m(unit), m(unit), m(unit)}, {m(-unit), m(-unit), m(-unit), m(-unit)},
		{m(1), m(0), m(unit), m(0)}, {m(-1), m(-unit), m(0), m(0)}, {m(999999), m(0), m(unit), m(unit)}, {m(-999999), m(-unit), m(0), m(-unit)},
		{m(499999), m(0), m(unit), m(0)}, {m(500000), m(0), m(unit), m(unit)}, {m(500001), m(0), m(unit), m(unit)},
		{m(-499999), m(-unit), m(0), m(0)}, {m(-500000), m(-unit), m(0), m(0)}, {m(-500001), m(-unit), m(0), m(-unit)},
		{m(2500000), m(2 * unit), m(3 * unit), m(3 * unit)}, {m(-2500000), m(-3 * unit), m(-2 * unit), m(-2 * unit)}, {m(-2500001), m(-3 * unit), m(-2 * unit), m(-3 * unit)}, {m(-2499999), m(-3 * unit), m(-2 * unit), m(-2 * unit)},
		{m(greatest), m(greatest), m(greatest), m(greatest)}, {m(-greatest), m(-greatest), m(-greatest), m(-greatest)},
		{m(greatest + 1), m(greatest), over, m(greatest)}, {m(-greatest - 1), under, m(-greatest), m(-greatest)},
		{m(greatest + 275808), m(greatest), over, m(greatest)}, {m(greatest + 499999), m(greatest), over, m(greatest)}, {m(-greatest - 499999), under, m(-greatest), m(-greatest)},
		{m(greatest + 500000), m(greatest), over, over}, {m(-greatest - 500000), under, m(-greatest), m(-greatest)}, {m(-greatest - 500001), under, m(-greatest), under},
		{m(math.MaxInt64), m(greatest), over, over}, {m(-math.MaxInt64), under, m(-greatest), under},
		{over, over, over, over}, {under, under, under, under}, {nan, nan, nan, nan},
	} {
		if f, c, r := dec.Floor(x.d), dec.Ceil(x.d), dec.Round(x.d); f != x.floor || c != x.ceil || r != x.round {
			t.Errorf("of %v: Floor %v, Ceil %v, Round %v", x.d, f, c, r)
		}
	}
}

func TestFloorCeilRoundOfAllSizes(t *testing.T) {
	check := func(d api.Dec) {
		if f, c, r := dec.Floor(d), dec.Ceil(d), dec.Round(d); f != whole(d, 0) || c != whole(d, unit-1) || r != whole(d, unit/2) {
			t.Errorf("of %v: Floor %v, Ceil %v, Round %v", d, f, c, r)
		}
	}
	for _, d := range all() {
		check(d)
	}
	for a := range somePairs {
		check(a)
	}
	for v := int64(-3 * unit); v <= 3*unit; v += 97 {
		check(m(v))
	}
}

func TestWhole(t *testing.T) {
	for _, x := range []struct {
		d    api.Dec
		want int
		ok   bool
	}{
		{m(0), 0, true}, {m(unit), 1, true}, {m(-unit), -1, true}, {m(-3 * unit), -3, true}, {m(120 * unit), 120, true}, {m(greatest), 9223372036854, true}, {m(-greatest), -9223372036854, true},
		{m(1), 0, false}, {m(-1), 0, false}, {m(1500000), 0, false}, {m(-999999), 0, false}, {m(unit + 1), 0, false}, {m(math.MaxInt64), 0, false}, {m(-math.MaxInt64), 0, false},
		{nan, 0, false}, {over, 0, false}, {under, 0, false},
	} {
		if n, ok := dec.Whole(x.d); n != x.want || ok != x.ok {
			t.Errorf("Whole(%v) = %d, %v", x.d, n, ok)
		}
	}
	for _, d := range append([]api.Dec{{Tag: 4, V: unit}, {Tag: api.Over, V: unit}, {Tag: -1, V: 0}}, wrong...) {
		if n, ok := dec.Whole(d); n != 0 || ok {
			t.Errorf("Whole(%v) = %d, %v", d, n, ok)
		}
	}
	for n := -9000; n <= 9000; n++ {
		if got, ok := dec.Whole(dec.Int(n)); got != n || !ok {
			t.Errorf("Whole of Int(%d) = %d, %v", n, got, ok)
		}
	}
}

// P3.6

func TestOrderAndBack(t *testing.T) {
	check := func(a, b api.Dec) {
		sum := dec.Add(a, b)
		if dec.Add(b, a) != sum || dec.Mul(a, b) != dec.Mul(b, a) {
			t.Errorf("Add or Mul of %v and %v asks for order", a, b)
		}
		if is(a) && is(b) && is(sum) && (dec.Sub(sum, b) != a || dec.Sub(sum, a) != b) {
			t.Errorf("%v and %v are %v, without them %v and %v", a, b, sum, dec.Sub(sum, b), dec.Sub(sum, a))
		}
		less := dec.Sub(a, b)
		if is(a) && is(b) && is(less) && dec.Add(less, b) != a {
			t.Errorf("%v without %v is %v, with it %v", a, b, less, dec.Add(less, b))
		}
	}
	for _, a := range all() {
		for _, b := range all() {
			check(a, b)
		}
		if dec.Right(a) && dec.Neg(dec.Neg(a)) != a {
			t.Errorf("Neg of Neg of %v is %v", a, dec.Neg(dec.Neg(a)))
		}
	}
	for a, b := range somePairs {
		check(a, b)
	}
}

// What is answered may be, at all arguments.
func TestAnswersAreRight(t *testing.T) {
	check := func(a, b api.Dec) {
		for k, d := range []api.Dec{dec.Add(a, b), dec.Sub(a, b), dec.Mul(a, b), dec.Div(a, b), dec.Mod(a, b), dec.Neg(a), dec.Floor(a), dec.Ceil(a), dec.Round(a)} {
			if !dec.Right(d) {
				t.Errorf("call %d of %v and %v: %v", k, a, b, d)
			}
		}
	}
	for _, a := range all() {
		for _, b := range all() {
			check(a, b)
		}
	}
	for a, b := range somePairs {
		check(a, b)
	}
}
