package fixed_test

import (
	"fmt"
	"math"
	"math/big"
	"regexp"
	"slices"
	"strings"
	"testing"

	"gauge/api"
	"gauge/fixed"
)

const most = api.MaxVal

// wide tells a number that can not go too far: the tests' own way, apart from the package's.
func wide(n int) *big.Int {
	return big.NewInt(int64(n))
}

// fits tells whether a wide number fits.
func fits(n *big.Int) bool {
	return n.CmpAbs(wide(most)) <= 0
}

// told tells a wide number, if it fits.
func told(n *big.Int) (int, api.Errno) {
	if !fits(n) {
		return 0, api.ErrOver
	}
	return int(n.Int64()), api.OK
}

// over tells a times b / by, rounded to nought: Quo rounds so.
func over(a, times, by int) *big.Int {
	n := new(big.Int).Mul(wide(a), wide(times))
	return n.Quo(n, wide(by))
}

// sequence tells numbers that look mixed, and are the same each time.
func sequence() func() uint64 {
	u := uint64(88172645463325252)
	return func() uint64 {
		u ^= u << 13
		u ^= u >> 7
		u ^= u << 17
		return u
	}
}

// mixed tells what tells numbers of all sizes and signs, all of which fit.
func mixed() func() int {
	next := sequence()
	return func() int {
		n := int(next() >> (4 + next()%60))
		if next()%2 == 0 {
			return -n
		}
		return n
	}
}

// right are numbers that fit: those at the ends of lengths, and others.
func right() []int {
	sizes := []int{
		0, 3, 7, 10, 999999, 1000001, 1500000, 999999999999, 1000000000000, 1000000000001,
		most / 3, most / 1000000, most/1000000 + 1, most - 1, most - 1000000, 1073741824000, 1073741824001,
	}
	for n := range 61 {
		sizes = append(sizes, 1<<n)
		if n < 60 {
			sizes = append(sizes, 1<<n+1)
		}
	}
	for n := 1; n < most/10; n *= 10 {
		sizes = append(sizes, n, 5*n)
	}
	var l []int
	for _, n := range sizes {
		l = append(l, n, -n)
	}
	slices.Sort(l)
	return slices.Compact(l)
}

// wrong are numbers that do not fit.
func wrong() []int {
	return []int{
		most + 1, most + 2, -most - 1, -most - 2, 2 * most, -2 * most, 3 * most,
		math.MaxInt, math.MaxInt - 1, math.MinInt, math.MinInt + 1, math.MinInt + most,
	}
}

// An example is a call of two numbers, and what it should tell of these.
type example struct {
	call       func(a, b int) (int, api.Errno)
	a, b, want int
	e          api.Errno
}

func (x example) holds(t *testing.T) {
	t.Helper()
	if n, e := x.call(x.a, x.b); n != x.want || e != x.e {
		t.Errorf("%d, %d: %d %d, not %d %d", x.a, x.b, n, e, x.want, x.e)
	}
}

// A pairing is a call of two numbers, and what it should tell of two that fit.
type pairing struct {
	name string
	call func(a, b int) (int, api.Errno)
	want func(a, b int) (int, api.Errno)
}

func sums() []pairing {
	return []pairing{
		{"Add", fixed.Add, func(a, b int) (int, api.Errno) { return told(new(big.Int).Add(wide(a), wide(b))) }},
		{"Sub", fixed.Sub, func(a, b int) (int, api.Errno) { return told(new(big.Int).Sub(wide(a), wide(b))) }},
	}
}

func products() []pairing {
	return []pairing{
		{"Mul", fixed.Mul, func(a, b int) (int, api.Errno) { return told(over(a, b, api.Unit)) }},
		{"Div", fixed.Div, func(a, b int) (int, api.Errno) {
			if b == 0 {
				return 0, api.ErrZero
			}
			return told(over(a, api.Unit, b))
		}},
		{"Mod", fixed.Mod, func(a, b int) (int, api.Errno) {
			if b == 0 {
				return 0, api.ErrZero
			}
			whole := new(big.Int).Quo(wide(a), wide(b))
			return told(new(big.Int).Sub(wide(a), whole.Mul(whole, wide(b))))
		}},
	}
}

// holds looks whether a pairing tells what it should, of each two of numbers that fit, and of mixed ones.
func holds(t *testing.T, p pairing) {
	t.Helper()
	look := func(a, b int) {
		n, e := p.call(a, b)
		want, wantE := p.want(a, b)
		if n != want || e != wantE {
			t.Errorf("%s of %d and %d: %d %d, not %d %d", p.name, a, b, n, e, want, wantE)
		}
	}
	for _, a := range right() {
		for _, b := range right() {
			look(a, b)
		}
	}
	next := mixed()
	for range 30000 {
		look(next(), next())
	}
}

// refuses looks whether a pairing tells ErrArg where one of the two does not fit, 0 beside it or not.
func refuses(t *testing.T, p pairing) {
	t.Helper()
	for _, a := range wrong() {
		for _, b := range append(right(), wrong()...) {
			if n, e := p.call(a, b); n != 0 || e != api.ErrArg {
				t.Errorf("%s of %d and %d: %d %d", p.name, a, b, n, e)
			}
			if n, e := p.call(b, a); n != 0 || e != api.ErrArg {
				t.Errorf("%s of %d and %d: %d %d", p.name, b, a, n, e)
			}
		}
	}
}

// P3.1

func TestFits(t *testing.T) {
	for _, n := range right() {
		if !fixed.Fits(n) {
			t.Errorf("%d fits", n)
		}
	}
	for _, n := range wrong() {
		if fixed.Fits(n) {
			t.Errorf("%d does not fit", n)
		}
	}
}

func TestSumExamples(t *testing.T) {
	for _, x := range []example{
		{fixed.Add, 1 << 60, 1, 0, api.ErrOver}, {fixed.Add, -1 << 60, -1, 0, api.ErrOver},
		{fixed.Add, 1 << 60, 0, 1 << 60, api.OK}, {fixed.Add, 1 << 60, -1, 1<<60 - 1, api.OK},
		{fixed.Add, 1 << 60, -1 << 60, 0, api.OK}, {fixed.Add, -1 << 60, 0, -1 << 60, api.OK},
		{fixed.Add, 1<<60 - 1, 1, 1 << 60, api.OK}, {fixed.Add, 1 << 60, 1 << 60, 0, api.ErrOver},
		{fixed.Add, 2, 3, 5, api.OK}, {fixed.Sub, 2, 3, -1, api.OK}, {fixed.Sub, 3, 2, 1, api.OK},
		{fixed.Sub, -1 << 60, 1, 0, api.ErrOver}, {fixed.Sub, 1 << 60, -1, 0, api.ErrOver},
		{fixed.Sub, 1 << 60, 1 << 60, 0, api.OK}, {fixed.Sub, 0, 1 << 60, -1 << 60, api.OK},
		{fixed.Sub, 0, -1 << 60, 1 << 60, api.OK}, {fixed.Sub, 1, -1 << 60, 0, api.ErrOver},
	} {
		x.holds(t)
	}
}

func TestAddSub(t *testing.T) {
	for _, p := range sums() {
		holds(t, p)
		refuses(t, p)
	}
}

func TestSum(t *testing.T) {
	for _, c := range []struct {
		l    []int
		want int
		e    api.Errno
	}{
		{nil, 0, api.OK}, {[]int{}, 0, api.OK}, {[]int{0}, 0, api.OK}, {[]int{5}, 5, api.OK}, {[]int{-5}, -5, api.OK},
		{[]int{1, 2, 3}, 6, api.OK}, {[]int{1, -2, 3, -4}, -2, api.OK}, {[]int{most}, most, api.OK}, {[]int{-most}, -most, api.OK},
		{[]int{most, -most, most}, most, api.OK}, {[]int{most, 0, 0}, most, api.OK}, {[]int{most - 1, 1}, most, api.OK},
		// One by one, from the front: what goes too far on the way is told.
		{[]int{most, 1, -1}, 0, api.ErrOver}, {[]int{most, -1, 1}, most, api.OK}, {[]int{-1, most, 1}, most, api.OK},
		{[]int{-most, -1, 1}, 0, api.ErrOver}, {[]int{1, most, -1}, 0, api.ErrOver},
		// The first error of several.
		{[]int{most, 1, most + 1}, 0, api.ErrOver}, {[]int{most, most + 1, 1}, 0, api.ErrArg},
		{[]int{most + 1, most, 1}, 0, api.ErrArg}, {[]int{-most, -1, math.MinInt}, 0, api.ErrOver},
		{[]int{-most, math.MinInt, -1}, 0, api.ErrArg},
		{[]int{1, 2, math.MaxInt}, 0, api.ErrArg}, {[]int{most + 1, -most - 1}, 0, api.ErrArg}, {[]int{0, most + 1}, 0, api.ErrArg},
	} {
		back := slices.Clone(c.l)
		if n, e := fixed.Sum(c.l); n != c.want || e != c.e {
			t.Errorf("%d: %d %d, not %d %d", c.l, n, e, c.want, c.e)
		}
		if !slices.Equal(c.l, back) {
			t.Errorf("%d was handed in, and is %d", back, c.l)
		}
	}
	for _, n := range wrong() {
		if s, e := fixed.Sum([]int{n}); s != 0 || e != api.ErrArg {
			t.Errorf("%d alone: %d %d", n, s, e)
		}
	}
}

func TestSumOneByOne(t *testing.T) {
	next := mixed()
	for range 3000 {
		var l []int
		sum, wantE := new(big.Int), api.OK
		for len(l) < 12 {
			n := next()
			l = append(l, n)
			if wantE == api.OK && !fits(sum.Add(sum, wide(n))) {
				wantE = api.ErrOver
			}
		}
		want := 0
		if wantE == api.OK {
			want = int(sum.Int64())
		}
		if n, e := fixed.Sum(l); n != want || e != wantE {
			t.Fatalf("%d: %d %d, not %d %d", l, n, e, want, wantE)
		}
	}
}

// P3.2

func TestProductExamples(t *testing.T) {
	for _, x := range []example{
		{fixed.Mul, 1500000, 2000000, 3000000, api.OK}, {fixed.Mul, 1, 1, 0, api.OK}, {fixed.Mul, -1, 1, 0, api.OK},
		{fixed.Mul, 999999, 1, 0, api.OK}, {fixed.Mul, -999999, 1, 0, api.OK}, {fixed.Mul, 1999999, 1, 1, api.OK},
		{fixed.Mul, -1999999, 1, -1, api.OK}, {fixed.Mul, -1999999, -1, 1, api.OK}, {fixed.Mul, 0, 1 << 60, 0, api.OK},
		{fixed.Mul, 1 << 60, 1000000, 1 << 60, api.OK}, {fixed.Mul, 1 << 60, -1000000, -1 << 60, api.OK},
		{fixed.Mul, 1 << 60, 1000001, 0, api.ErrOver}, {fixed.Mul, -1 << 60, 1000001, 0, api.ErrOver},
		{fixed.Mul, 1 << 60, 1 << 60, 0, api.ErrOver}, {fixed.Mul, -1 << 60, -1 << 60, 0, api.ErrOver},
		{fixed.Mul, 1 << 60, 999999, 1<<60 - 1<<60/1000000 - 1, api.OK},
		{fixed.Mul, 1 << 40, 1 << 39, 604462909807314587, api.OK}, {fixed.Mul, 1 << 40, 1 << 40, 0, api.ErrOver},
		{fixed.Div, 1000000, 3000000, 333333, api.OK}, {fixed.Div, -1000000, 3000000, -333333, api.OK},
		{fixed.Div, 1000000, -3000000, -333333, api.OK}, {fixed.Div, -1000000, -3000000, 333333, api.OK},
		{fixed.Div, 2000000, 3000000, 666666, api.OK}, {fixed.Div, -2000000, 3000000, -666666, api.OK},
		{fixed.Div, 1, 0, 0, api.ErrZero}, {fixed.Div, 0, 0, 0, api.ErrZero}, {fixed.Div, most, 0, 0, api.ErrZero},
		{fixed.Div, 0, 1, 0, api.OK}, {fixed.Div, 1, most, 0, api.OK}, {fixed.Div, most, 1, 0, api.ErrOver},
		{fixed.Div, most, 999999, 0, api.ErrOver}, {fixed.Div, most, 1000000, most, api.OK}, {fixed.Div, -most, 1000000, -most, api.OK},
		{fixed.Div, most, -1000000, -most, api.OK}, {fixed.Div, most, most, 1000000, api.OK},
		{fixed.Mod, -7000000, 4000000, -3000000, api.OK}, {fixed.Mod, 7000000, 4000000, 3000000, api.OK},
		{fixed.Mod, 7000000, -4000000, 3000000, api.OK}, {fixed.Mod, -7000000, -4000000, -3000000, api.OK},
		{fixed.Mod, 5500000, 2500000, 500000, api.OK}, {fixed.Mod, 8000000, 4000000, 0, api.OK}, {fixed.Mod, -8000000, 4000000, 0, api.OK},
		{fixed.Mod, 1, 0, 0, api.ErrZero}, {fixed.Mod, 0, 0, 0, api.ErrZero}, {fixed.Mod, 0, 5, 0, api.OK},
		{fixed.Mod, most, most - 1, 1, api.OK}, {fixed.Mod, most - 1, most, most - 1, api.OK}, {fixed.Mod, 1 - most, -most, 1 - most, api.OK},
		{fixed.Mod, most, 1, 0, api.OK}, {fixed.Mod, -most, -1, 0, api.OK}, {fixed.Mod, most, 3, 1, api.OK},
	} {
		x.holds(t)
	}
}

func TestMulDivMod(t *testing.T) {
	for _, p := range products() {
		holds(t, p)
		refuses(t, p)
	}
}

// ErrArg is told ahead of ErrZero.
func TestByNought(t *testing.T) {
	for _, p := range products()[1:] {
		for _, a := range right() {
			if n, e := p.call(a, 0); n != 0 || e != api.ErrZero {
				t.Errorf("%s of %d and 0: %d %d", p.name, a, n, e)
			}
		}
		for _, a := range wrong() {
			if n, e := p.call(a, 0); n != 0 || e != api.ErrArg {
				t.Errorf("%s of %d and 0: %d %d", p.name, a, n, e)
			}
		}
	}
}

// P3.3

func TestScaleExamples(t *testing.T) {
	for _, c := range []struct {
		a, times, by, want int
		e                  api.Errno
	}{
		{10, 7, 3, 23, api.OK}, {-10, 7, 3, -23, api.OK}, {10, -7, 3, -23, api.OK}, {-10, -7, 3, 23, api.OK},
		{2, 1, 3, 0, api.OK}, {-2, 1, 3, 0, api.OK}, {0, 5, 1, 0, api.OK}, {5, 0, 1, 0, api.OK}, {5, 1, 1, 5, api.OK},
		{most, most, most, most, api.OK}, {-most, most, most, -most, api.OK}, {most, -most, most, -most, api.OK},
		{most, 1, 1, most, api.OK}, {most, 1, most, 1, api.OK}, {most, 2, 2, most, api.OK},
		{most, 2, 1, 0, api.ErrOver}, {-most, 2, 1, 0, api.ErrOver}, {most, most, 1, 0, api.ErrOver}, {-most, -most, 1, 0, api.ErrOver},
		{most, most, most - 1, 0, api.ErrOver}, {most, most - 1, most, most - 1, api.OK}, {most - 1, most, most, most - 1, api.OK},
		{1<<59 + 1, 2, 1, 0, api.ErrOver}, {1 << 59, 2, 1, 1 << 60, api.OK}, {1<<59 + 1, 4, 2, 0, api.ErrOver},
		{1 << 59, 17, 8, 0, api.ErrOver}, {most, 1000, 999, 0, api.ErrOver}, {most, 999, 1000, 1151768583102240129, api.OK},
		{1, 1, 0, 0, api.ErrArg}, {0, 0, 0, 0, api.ErrArg}, {1, 1, -1, 0, api.ErrArg}, {1, 1, -most, 0, api.ErrArg},
		{1, 1, most + 1, 0, api.ErrArg}, {1, 1, math.MaxInt, 0, api.ErrArg}, {1, 1, math.MinInt, 0, api.ErrArg},
		{most + 1, 1, 1, 0, api.ErrArg}, {-most - 1, 1, 1, 0, api.ErrArg}, {1, most + 1, 1, 0, api.ErrArg}, {1, -most - 1, 1, 0, api.ErrArg},
		{most + 1, 0, 0, 0, api.ErrArg}, {most, most, 0, 0, api.ErrArg}, {math.MinInt, math.MinInt, 1, 0, api.ErrArg},
	} {
		if n, e := fixed.Scale(c.a, c.times, c.by); n != c.want || e != c.e {
			t.Errorf("%d, %d, %d: %d %d, not %d %d", c.a, c.times, c.by, n, e, c.want, c.e)
		}
	}
}

func TestScale(t *testing.T) {
	look := func(a, times, by int) {
		want, wantE := 0, api.ErrArg
		if by > 0 {
			want, wantE = told(over(a, times, by))
		}
		if n, e := fixed.Scale(a, times, by); n != want || e != wantE {
			t.Errorf("%d, %d, %d: %d %d, not %d %d", a, times, by, n, e, want, wantE)
		}
	}
	few := []int{0, 1, -1, 2, 3, 7, -999999, 1000000, 1 << 30, -1 << 31, 1<<59 - 1, 1 << 59, most - 1, most, -most}
	for _, a := range few {
		for _, times := range few {
			for _, by := range right() {
				look(a, times, by)
			}
		}
	}
	next := mixed()
	for range 30000 {
		look(next(), next(), next())
	}
}

func TestScaleWrong(t *testing.T) {
	for _, bad := range wrong() {
		for _, good := range []int{0, 1, 5, most} {
			for _, l := range [][3]int{{bad, good, 1}, {good, bad, 1}, {good, good, bad}, {bad, bad, 1}, {bad, good, bad}, {bad, bad, bad}, {bad, good, 0}} {
				if n, e := fixed.Scale(l[0], l[1], l[2]); n != 0 || e != api.ErrArg {
					t.Errorf("%d: %d %d", l, n, e)
				}
			}
		}
	}
}

// P3.4

func TestTexts(t *testing.T) {
	for _, c := range []struct {
		n int
		s string
	}{
		{0, "0"}, {-1500000, "-1.5"}, {1, "0.000001"}, {-1, "-0.000001"}, {2500000, "2.5"}, {1000000, "1"}, {-1000000, "-1"},
		{10, "0.00001"}, {100, "0.0001"}, {1000, "0.001"}, {10000, "0.01"}, {100000, "0.1"}, {-500000, "-0.5"},
		{123456, "0.123456"}, {120450, "0.12045"}, {1000001, "1.000001"}, {10000000, "10"}, {100500000, "100.5"},
		{999999, "0.999999"}, {1999999, "1.999999"}, {12345678901234567, "12345678901.234567"},
		{1 << 60, "1152921504606.846976"}, {-1 << 60, "-1152921504606.846976"}, {1<<60 - 1, "1152921504606.846975"},
		{1152921504606000000, "1152921504606"}, {1152921504606800000, "1152921504606.8"},
	} {
		if s, e := fixed.Print(c.n); s != c.s || e != api.OK {
			t.Errorf("%d: %q %d", c.n, s, e)
		}
		if n, e := fixed.Parse(c.s); n != c.n || e != api.OK {
			t.Errorf("%q: %d %d", c.s, n, e)
		}
	}
}

// textOf tells a number's text.
func textOf(n int) string {
	whole, parts := new(big.Int).QuoRem(new(big.Int).Abs(wide(n)), wide(1000000), new(big.Int))
	s := fmt.Sprintf("%d", whole)
	if parts.Sign() != 0 {
		s += strings.TrimRight(fmt.Sprintf(".%06d", parts), "0")
	}
	if n < 0 {
		s = "-" + s
	}
	return s
}

func TestPrint(t *testing.T) {
	look := func(n int) {
		if s, e := fixed.Print(n); s != textOf(n) || e != api.OK {
			t.Errorf("%d: %q %d, not %q", n, s, e, textOf(n))
		}
	}
	for _, n := range right() {
		look(n)
	}
	next := mixed()
	for range 30000 {
		look(next())
	}
}

func TestPrintWrong(t *testing.T) {
	for _, n := range wrong() {
		if s, e := fixed.Print(n); s != "" || e != api.ErrArg {
			t.Errorf("%d: %q %d", n, s, e)
		}
	}
}

func TestParseWrong(t *testing.T) {
	for _, s := range []string{
		"", "-", ".", "-.", "1.50", "-0", "01", "1.", "1.0000001", "1.0", "-0.0", "0.0", "0.000000", "-1.", ".5", "-.5", "00", "-00",
		"007", "-01", "--1", "1-", "1.-5", "+1", "+0", " 1", "1 ", "1 0", "\t1", "1\n", "1\x00", "\x001", "1e3", "0x10", "1_000", "1,5",
		"1..5", "1.5.", "1.5.5", "..", "a", "1a", "a1", "1.a", "1.5a", "1.1234567", "1.123450", "1.12345a", "1/", "1:", "/1", ":1", "1./5", "1.:5",
		"NaN", "inf", "-inf", "٣", "１", "1.٣", "−1", "1\xff", "\xff", "\xff1",
		// What is no text is told ahead of what does not fit.
		"99999999999999999999999x", "99999999999999999999.0", "-99999999999999999999.", "099999999999999999999", "99999999999999999999.1234567",
	} {
		if n, e := fixed.Parse(s); n != 0 || e != api.ErrSyntax {
			t.Errorf("%q: %d %d", s, n, e)
		}
	}
}

func TestParseOver(t *testing.T) {
	for _, s := range []string{
		"1152921504606.846977", "1152921504606.85", "1152921504606.9", "1152921504607", "1152921504616.846976", "2000000000000", "10000000000000",
		"9223372036854.775807", "9223372036854.775808", "18446744073709.551615", "18446744073709.551616", "18446744073709.551617", "18446744073710",
		"9223372036854775807", "9223372036854775808", "18446744073709551615", "18446744073709551616", "18446744073709551617",
		"340282366920938463463374607431768211456", "1" + strings.Repeat("0", 25), "1" + strings.Repeat("0", 64), "1" + strings.Repeat("0", 64) + ".5",
		strings.Repeat("9", 1000), strings.Repeat("9", 1000) + ".999999", "36893488147419103232", "73786976294838206464",
	} {
		for _, sign := range []string{"", "-"} {
			if n, e := fixed.Parse(sign + s); n != 0 || e != api.ErrOver {
				t.Errorf("%q: %d %d", sign+s, n, e)
			}
		}
	}
}

// number is what a text of a number is like, but for -0.
var number = regexp.MustCompile(`\A-?(0|[1-9][0-9]*)(\.[0-9]{0,5}[1-9])?\z`)

// wantParse tells what Parse should tell.
func wantParse(s string) (int, api.Errno) {
	if !number.MatchString(s) || s == "-0" {
		return 0, api.ErrSyntax
	}
	n, good := new(big.Rat).SetString(s)
	if n.Mul(n, big.NewRat(1000000, 1)); !good || !n.IsInt() {
		panic(s)
	}
	return told(n.Num())
}

func lookParse(t *testing.T, s string) {
	t.Helper()
	want, wantE := wantParse(s)
	if n, e := fixed.Parse(s); n != want || e != wantE {
		t.Errorf("%q: %d %d, not %d %d", s, n, e, want, wantE)
	}
}

// Each text of at most six bytes, of those bytes that matter and of one that may not be.
func TestParseEachText(t *testing.T) {
	texts := []string{""}
	for range 6 {
		var longer []string
		for _, s := range texts {
			lookParse(t, s)
			for _, c := range "019.-x" {
				longer = append(longer, s+string(c))
			}
		}
		texts = longer
	}
	for _, s := range texts {
		lookParse(t, s)
	}
}

func TestParseEachByte(t *testing.T) {
	for c := range 256 {
		for _, s := range []string{"", "1", "-1", "1.", "1.5", "-", "0", "12"} {
			lookParse(t, s+string([]byte{byte(c)}))
			lookParse(t, string([]byte{byte(c)})+s)
			lookParse(t, s+string([]byte{byte(c)})+"5")
		}
	}
}

// Digits of many lengths, ahead of a point and behind it, round about the greatest number too.
func TestParseLengths(t *testing.T) {
	digits := func(next func() uint64, n int) string {
		b := make([]byte, n)
		for i := range b {
			b[i] = '0' + byte(next()>>20%10)
		}
		return string(b)
	}
	next := sequence()
	for range 200 {
		for n := range 25 {
			s := digits(next, n)
			lookParse(t, s)
			lookParse(t, "-1"+s)
			for m := range 8 {
				lookParse(t, "1"+s+"."+digits(next, m))
			}
		}
	}
	for n := range 3000 {
		whole := 1152921504606846976 - 1500 + n
		lookParse(t, fmt.Sprintf("%d.%06d", whole/1000000, whole%1000000))
		lookParse(t, fmt.Sprintf("-%d.%06d", whole/1000000, whole%1000000))
	}
}

// P3.5

func TestThereAndBack(t *testing.T) {
	look := func(n int) {
		s, e := fixed.Print(n)
		if e != api.OK {
			t.Fatalf("%d: %d", n, e)
		}
		if back, e := fixed.Parse(s); back != n || e != api.OK {
			t.Errorf("%d: %q, and back %d %d", n, s, back, e)
		}
	}
	for n := -20000; n <= 20000; n++ {
		look(n)
		look(n * 100)
	}
	for _, n := range right() {
		look(n)
	}
	next := mixed()
	for range 30000 {
		look(next())
	}
}

// What is taken as a number has just this text.
func TestOneForm(t *testing.T) {
	taken := 0
	next := sequence()
	for range 300000 {
		b := make([]byte, 1+next()%9)
		for i := range b {
			b[i] = "-.0001259"[next()>>20%9]
		}
		n, e := fixed.Parse(string(b))
		if e != api.OK {
			continue
		}
		taken++
		if s, e := fixed.Print(n); s != string(b) || e != api.OK {
			t.Fatalf("%q: %d, and back %q %d", b, n, s, e)
		}
	}
	if taken < 1000 {
		t.Fatalf("%d texts alone were taken", taken)
	}
}

// P3.6

// pairs goes through pairs of numbers that fit.
func pairs(look func(a, b int)) {
	for _, a := range right() {
		for _, b := range right() {
			look(a, b)
		}
	}
	next := mixed()
	for range 30000 {
		look(next(), next())
	}
}

func TestOrder(t *testing.T) {
	pairs(func(a, b int) {
		for _, call := range []func(a, b int) (int, api.Errno){fixed.Add, fixed.Mul} {
			n, e := call(a, b)
			if m, f := call(b, a); m != n || f != e {
				t.Fatalf("%d, %d: %d %d, turned %d %d", a, b, n, e, m, f)
			}
		}
		n, e := fixed.Add(a, b)
		if e != api.OK {
			return
		}
		if back, e := fixed.Sub(n, b); back != a || e != api.OK {
			t.Fatalf("%d, %d: %d, less the second one %d %d", a, b, n, back, e)
		}
	})
}

func TestSigns(t *testing.T) {
	pairs(func(a, b int) {
		for _, p := range products() {
			n, e := p.call(a, b)
			if m, f := p.call(-a, b); m != -n || f != e {
				t.Fatalf("%s of %d, %d: %d %d, of - %d %d", p.name, a, b, n, e, m, f)
			}
		}
	})
}

// P3.7

func TestQuotients(t *testing.T) {
	seen := 0
	pairs(func(a, b int) {
		by, e := fixed.Div(a, b)
		if e != api.OK {
			return
		}
		seen++
		n, e := fixed.Mul(by, b)
		apart := new(big.Int).Sub(wide(a), wide(n))
		if e != api.OK || apart.CmpAbs(wide(b)) > 0 || wide(n).CmpAbs(wide(a)) > 0 || apart.Sign()*wide(a).Sign() < 0 {
			t.Fatalf("%d by %d: %d, times that %d %d", a, b, by, n, e)
		}
	})
	if seen < 1000 {
		t.Fatalf("%d quotients alone were told", seen)
	}
}

func TestWhatIsLeft(t *testing.T) {
	pairs(func(a, b int) {
		if b == 0 {
			return
		}
		n, e := fixed.Mod(a, b)
		times := new(big.Int).Sub(wide(a), wide(n))
		if e != api.OK || wide(n).CmpAbs(wide(b)) >= 0 || times.Rem(times, wide(b)).Sign() != 0 || n != 0 && (n < 0) != (a < 0) {
			t.Fatalf("%d by %d leaves %d %d", a, b, n, e)
		}
	})
}
