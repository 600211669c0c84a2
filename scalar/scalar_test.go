package scalar_test

import (
	"fmt"
	"math"
	"strings"
	"testing"

	"turnpike/api"
	"turnpike/scalar"
)

var minusNought = math.Copysign(0, -1)

func null() scalar.Value          { return scalar.Value{Kind: scalar.Null} }
func truth(b bool) scalar.Value   { return scalar.Value{Kind: scalar.Bool, Bool: b} }
func whole(n int64) scalar.Value  { return scalar.Value{Kind: scalar.Int, Int: n} }
func real(x float64) scalar.Value { return scalar.Value{Kind: scalar.Real, Real: x} }
func text(s string) scalar.Value  { return scalar.Value{Kind: scalar.Text, Text: s} }

// equal: whether two values are alike in every field, bit by bit, but that what is no number is all alike.
func equal(a, b scalar.Value) bool {
	reals := math.Float64bits(a.Real) == math.Float64bits(b.Real) || math.IsNaN(a.Real) && math.IsNaN(b.Real)
	return a.Kind == b.Kind && a.Bool == b.Bool && a.Int == b.Int && a.Text == b.Text && reals
}

// told: a value as a failure tells it: no more of its text than may be read.
func told(v scalar.Value) string {
	return fmt.Sprintf("{%d %v %d %v %.200q}", v.Kind, v.Bool, v.Int, v.Real, v.Text)
}

func wantRead(t *testing.T, s string, want scalar.Value) {
	t.Helper()
	if got := scalar.Read(s, false); !equal(got, want) {
		t.Errorf("Read(%.200q): %s, want %s", s, told(got), told(want))
	}
	if got := scalar.Read(s, true); !equal(got, text(s)) {
		t.Errorf("Read(%.200q), quoted: %s", s, told(got))
	}
}

func wantPrint(t *testing.T, v scalar.Value, want string, quoted bool) {
	t.Helper()
	if got, q, e := scalar.Print(v); got != want || q != quoted || e != api.OK {
		t.Errorf("Print(%s): %.200q, %v, %d, want %.200q, %v", told(v), got, q, int(e), want, quoted)
	}
}

func wantNoPrint(t *testing.T, v scalar.Value) {
	t.Helper()
	if got, q, e := scalar.Print(v); got != "" || q || e != api.ErrArg {
		t.Errorf("Print(%s): %.200q, %v, %d, want ErrArg", told(v), got, q, int(e))
	}
}

// P11.1: the chapter's examples, and the words.
func TestReadWords(t *testing.T) {
	for _, s := range []string{"", "~", "null"} {
		wantRead(t, s, null())
	}
	wantRead(t, "true", truth(true))
	wantRead(t, "false", truth(false))
	wantRead(t, ".nan", real(math.NaN()))
	wantRead(t, ".inf", real(math.Inf(1)))
	wantRead(t, "-.inf", real(math.Inf(-1)))
	for _, s := range []string{
		"Null", "NULL", "nul", "nulll", "null ", " null", "~~", " ", "\x00", "None", "nil",
		"True", "TRUE", "tru", "truee", "False", "yes", "no", "on", "off", "true\n", "-true",
		".NaN", ".NAN", "nan", "NaN", "-.nan", "+.nan", ".nan.", "nan.", ".Inf", ".INF", "inf", "Inf", "+.inf", "-inf", "--.inf", "- .inf", ".infinity", "0.inf",
		"ab", "a b", "é", "\xff\xfe", "٣", "1٣", "x.y", "v1",
	} {
		wantRead(t, s, text(s))
	}
}

// P11.1: ints, their edges, and what only looks like one.
func TestReadInts(t *testing.T) {
	for s, want := range map[string]int64{
		"0": 0, "1": 1, "9": 9, "10": 10, "-1": -1, "-12": -12, "100": 100, "1234567890": 1234567890,
		"999999999999999": 999999999999999, "1000000000000000": 1000000000000000, "9007199254740993": 9007199254740993,
		"9223372036854775806": math.MaxInt64 - 1, "9223372036854775807": math.MaxInt64,
		"-9223372036854775807": -math.MaxInt64, "-9223372036854775808": math.MinInt64,
	} {
		wantRead(t, s, whole(want))
	}
	for _, s := range []string{
		"-0", "00", "01", "007", "-01", "-00", "+1", "+0", "--1", "-", "--", "1-", "1-1", " 1", "1 ", "1\n", "1,000", "1_000", "0x10", "0b1", "0o7", "1a", "a1", "0-",
		"9223372036854775808", "-9223372036854775809", "9999999999999999999", "18446744073709551615", "18446744073709551616", "18446744073709551617", "-18446744073709551616",
		strings.Repeat("9", 19), strings.Repeat("1", 20), "1" + strings.Repeat("0", 60000), "-1" + strings.Repeat("0", 60000), strings.Repeat("0", 60000),
	} {
		wantRead(t, s, text(s))
	}
}

// P11.1: reals, and what only looks like one.
func TestReadReals(t *testing.T) {
	for s, want := range map[string]float64{
		"1.5": 1.5, "-1.5": -1.5, "0.0": 0, "-0.0": minusNought, "0.5": 0.5, "10.25": 10.25, "1.0e3": 1000, "1.5e-3": 0.0015, "-1.5e-3": -0.0015, "0.1": 0.1, "0.3": 0.3, "1.10": 1.1,
		"1.5e0": 1.5, "1.5e-0": 1.5, "1.5e00": 1.5, "1.5e-00": 1.5, "1.5e03": 1500, "1.5e-03": 0.0015, "0.0e0": 0, "-0.0e0": minusNought, "-0.000": minusNought, "0.1e1": 1, "12.0e-1": 1.2,
	} {
		wantRead(t, s, real(want))
	}
	for _, s := range []string{
		".5", "-.5", "1.", "-1.", ".", "-.", "1.e3", ".e3", "1e3", "-1e3", "1e-3", "0e0", "1.0E3", "1.0e", "1.0e-", "1.0e+3", "1.0e--3", "1.0e3-", "1.0e 3", "1.0e3 ", " 1.0", "1.0 ", "1 .0", "1. 0", "1.-0", "1.0-", "-1.-0",
		"1.0e003", "1.0e100", "1.0e-003", "1.0e000", "1.0e3e3", "1.0e3.0", "1.0ee3", "1.0e.", "1.0e3.", "1.0.0", "1..0", "..0", "00.0", "01.5", "-00.0", "-01.5", "+1.5", "--1.5", "1,5", "1_0.5", "1.5_0", "0x1.5", "1.5f", "1.a", "1.5a", "a.5", "1.5ea", "1.5e1a", "1.5ea1",
		"1.5\x00", "\x001.5", "1.5\n", "1.٣", "٣.5", "1.5e٣",
	} {
		wantRead(t, s, text(s))
	}
}

// P11.1: how great M and k of a real may be.
func TestReadRealsAtTheirEdges(t *testing.T) {
	noughts := func(n int) string { return strings.Repeat("0", n) }
	for s, want := range map[string]float64{
		"99999999999999.9": 999999999999999. / 10, "9.99999999999999": 9.99999999999999, "0.999999999999999": 0.999999999999999, "1.00000000000000": 1, "-9.99999999999999e36": -999999999999999e22, "9.99999999999999e-8": 999999999999999. / 1e22,
		"1.0e22": 1e22, "1.0e23": 1e23, "0.1e23": 1e22, "1.00e24": 1e24, "10.0e23": 1e24, "99.9e23": 99.9e23, "1.0e-21": 1e-21, "0.1e-21": 1e-22, "0.01e-20": 1e-22,
		"0." + noughts(21) + "1": 1e-22, "0." + noughts(7) + "999999999999999": 999999999999999. / 1e22, "0." + noughts(22): 0, "-0." + noughts(22): minusNought,
		"0.0e23": 0, "0.0e-21": 0, "-0.0e23": minusNought, "0.00e24": 0,
		"0." + noughts(120) + "1e99": 1e-22, "0." + noughts(76) + "1e99": 1e22, "0." + noughts(121) + "e99": 0, "0." + noughts(77) + "e99": 0, "0." + noughts(62) + "999999999999999e99": 999999999999999e22, "1." + noughts(14) + "e-8": 1e14 / 1e22,
	} {
		wantRead(t, s, real(want))
	}
	for _, s := range []string{
		"123456789012345.0", "100000000000000.0", "1.000000000000000", "10000000000000.00", "0.1000000000000000", "0.1234567890123456", "-100000000000000.0", "9999999999999999.9", "999999999999999.9", "99999999999999.90",
		"1.0e24", "1.00e25", "0.1e24", "10.0e24", "1.0e99", "1.0e-22", "1.5e-22", "0.1e-22", "1.0e-99", "0.0e24", "-0.0e24", "0.0e-22", "0.0e99", "0.0e-99", "9.99999999999999e37", "9.99999999999999e-9",
		"0." + noughts(22) + "1", "0." + noughts(23), "-0." + noughts(23), "0." + noughts(121) + "1e99", "0." + noughts(75) + "1e99", "0." + noughts(122) + "e99", "0." + noughts(76) + "e99", "0." + noughts(61) + "999999999999999e99", "0." + noughts(62) + "1000000000000000e99",
		"0." + noughts(60000), "1." + noughts(60000), "1" + noughts(60000) + ".0", "0." + noughts(60000) + "1e99", "0." + strings.Repeat("9", 60000), "1.0e" + noughts(60000) + "1", "18446744073709551617.0", "1844674407370955161.7e1", "0.18446744073709551617", "1.8446744073709551617e3",
	} {
		wantRead(t, s, text(s))
	}
}

// P11.2: the text of each kind, whatever stands in the other fields.
func TestPrint(t *testing.T) {
	wantPrint(t, null(), "null", false)
	wantPrint(t, truth(true), "true", false)
	wantPrint(t, truth(false), "false", false)
	for n, want := range map[int64]string{0: "0", 7: "7", -12: "-12", 100: "100", math.MaxInt64: "9223372036854775807", math.MinInt64: "-9223372036854775808"} {
		wantPrint(t, whole(n), want, false)
	}
	full := scalar.Value{Bool: true, Int: 5, Real: 0.25, Text: "x"}
	for kind, want := range map[int]string{scalar.Null: "null", scalar.Bool: "true", scalar.Int: "5", scalar.Real: "0.25", scalar.Text: "x"} {
		full.Kind = kind
		wantPrint(t, full, want, false)
	}
	for _, kind := range noKinds {
		full.Kind = kind
		wantNoPrint(t, full)
		wantNoPrint(t, scalar.Value{Kind: kind})
	}
	wantNoPrint(t, scalar.Value{})
}

var noKinds = []int{0, -1, -5, 6, 9, 1 << 8, 1<<8 + 1, 1<<32 + 1, math.MaxInt, math.MinInt, math.MinInt + 1}

// P11.2: a Text is quoted just if it would be read as something else.
func TestPrintTexts(t *testing.T) {
	for _, s := range []string{"", "~", "null", "true", "false", "0", "12", "-12", "9223372036854775807", "1.5", "-0.0", "1.0e3", "1.00000000000000", ".nan", ".inf", "-.inf"} {
		wantPrint(t, text(s), s, true)
	}
	for _, s := range []string{"ab", "Null", "-0", "007", "9223372036854775808", ".5", "1.", "1e3", "123456789012345.0", "1.0e24", ".NaN", "-", " ", "\n", "\"", "*", "a: b", "\x00", "\xff", strings.Repeat("1", 60000)} {
		wantPrint(t, text(s), s, false)
	}
}

// P11.2: the texts of reals, each of its forms at its edges.
func TestPrintReals(t *testing.T) {
	for s, x := range map[string]float64{
		".nan": math.NaN(), ".inf": math.Inf(1), "-.inf": math.Inf(-1), "0.0": 0, "-0.0": minusNought,
		"1.0": 1, "-1.0": -1, "1000.0": 1000, "0.0015": 0.0015, "-0.0015": -0.0015, "12.5": 12.5, "0.1": 0.1, "0.01": 0.01, "1.01": 1.01, "99.99": 99.99, "100.0": 100,
		"10000000000000.0": 1e13, "1.0e14": 1e14, "20000000000000.0": 2e13, "99999999999999.0": 99999999999999, "-99999999999999.0": -99999999999999, "1.00000000000001e14": 100000000000001, "9.99999999999999e14": 999999999999999, "1.0e15": 1e15, "1.2e14": 120000000000000, "12000000000000.0": 12000000000000,
		"99999999999999.9": 99999999999999.9, "9.99999999999999": 9.99999999999999, "0.999999999999999": 0.999999999999999,
		"1.0e22": 1e22, "1.0e23": 1e23, "1.00e24": 1e24, "1.00000000000000e36": 1e36, "-1.00000000000000e36": -1e36, "1.20000000000000e36": 1.2e36, "9.99999999999999e36": 999999999999999e22, "5.0e20": 5e20, "1.5e15": 1500000000000000,
		"0.0000000000000000000001": 1e-22, "-0.0000000000000000000001": -1e-22, "0.0000000000000000000012": 1.2e-21, "0.0000000999999999999999": 9.99999999999999e-8, "0.000000000000000000001": 1e-21,
	} {
		wantPrint(t, real(x), s, false)
	}
	for _, x := range []float64{
		math.SmallestNonzeroFloat64, math.MaxFloat64, 1.0 / 3, 2.0 / 3, math.Pi, 0.1 + 0.2*1.0000000000000002, math.Nextafter(1, 2), math.Nextafter(1, 0), math.Nextafter(1000, 0), 1e37, 1e-23, 1.1e-22, 5e-23, 9.99999999999999e-9, 999999999999999e23, 1234567890123456, 9007199254740991, 0x1p-1022, math.Nextafter(0x1p-1022, 0), math.Nextafter(1e23, 0), math.Nextafter(1e22, 1e23), math.Nextafter(1e-22, 0), math.Nextafter(1e-22, 1),
	} {
		wantNoPrint(t, real(x))
		wantNoPrint(t, real(-x))
	}
}

// P11.3: values are the same just if they stand in one row here, whatever the other fields have.
func TestSame(t *testing.T) {
	full := func(kind int, b bool, n int64, x float64, s string) scalar.Value {
		return scalar.Value{Kind: kind, Bool: b, Int: n, Real: x, Text: s}
	}
	otherNaN := math.Float64frombits(0xfff8000000000001)
	rows := [][]scalar.Value{
		{null(), full(scalar.Null, true, 3, 0.5, "x"), full(scalar.Null, false, 0, math.NaN(), "")},
		{truth(true), full(scalar.Bool, true, 3, math.NaN(), "x")},
		{truth(false), full(scalar.Bool, false, 3, 0.5, "x")},
		{whole(0), full(scalar.Int, true, 0, 0.5, "x")},
		{whole(1), full(scalar.Int, true, 1, math.NaN(), "x")},
		{whole(math.MinInt64)}, {whole(math.MaxInt64)}, {whole(-1)}, {whole(1 << 32)},
		{real(0), full(scalar.Real, true, 3, 0, "x")},
		{real(minusNought), full(scalar.Real, true, 3, minusNought, "x")},
		{real(math.NaN()), real(otherNaN), real(-math.NaN()), full(scalar.Real, true, 3, otherNaN, "x")},
		{real(math.Inf(1)), full(scalar.Real, true, 3, math.Inf(1), "x")},
		{real(math.Inf(-1))}, {real(1)}, {real(math.Nextafter(1, 2))}, {real(-1)}, {real(math.SmallestNonzeroFloat64)}, {real(-math.SmallestNonzeroFloat64)}, {real(math.MaxFloat64)},
		{text(""), full(scalar.Text, true, 3, math.NaN(), "")},
		{text("null")}, {text("a"), full(scalar.Text, true, 3, 0.5, "a")}, {text("A")}, {text("ab")}, {text("a\x00")}, {text("1")},
	}
	for i, row := range rows {
		for j, other := range rows {
			for _, a := range row {
				for _, b := range other {
					if scalar.Same(a, b) != (i == j) {
						t.Errorf("Same(%v, %v)", a, b)
					}
				}
			}
		}
	}
	for _, kind := range noKinds {
		none := full(kind, true, 1, 1, "1")
		if scalar.Same(none, none) || scalar.Same(scalar.Value{Kind: kind}, scalar.Value{Kind: kind}) {
			t.Errorf("Same of the kind %d", kind)
		}
		for kind := scalar.Null; kind <= scalar.Text; kind++ {
			some := full(kind, true, 1, 1, "1")
			if scalar.Same(none, some) || scalar.Same(some, none) {
				t.Errorf("Same of the kinds %d and %d", none.Kind, kind)
			}
		}
	}
}

// P11.4: what Scaled and Decimal refuse, and the edges of what they take.
func TestScaledAndDecimal(t *testing.T) {
	for _, c := range []struct {
		m uint64
		k int
		x float64
	}{
		{15, -4, 0.0015}, {1, 3, 1000}, {1, 0, 1}, {1, 22, 1e22}, {10, 22, 1e23}, {1, -22, 1e-22}, {999999999999999, 22, 9.99999999999999e36}, {999999999999999, -22, 9.99999999999999e-8}, {999999999999999, 0, 999999999999999}, {3, -1, 0.3}, {100000000000001, 0, 100000000000001}, {100000000000000, 22, 1e36}, {20, 22, 2e23},
	} {
		if x, e := scalar.Scaled(c.m, c.k); x != c.x || e != api.OK {
			t.Errorf("Scaled(%d, %d): %v, %d, want %v", c.m, c.k, x, int(e), c.x)
		}
		if m, k, e := scalar.Decimal(c.x); m != c.m || k != c.k || e != api.OK {
			t.Errorf("Decimal(%v): %d, %d, %d, want %d, %d", c.x, m, k, int(e), c.m, c.k)
		}
	}
	for k := -22; k <= 22; k++ {
		if x, e := scalar.Scaled(0, k); math.Float64bits(x) != 0 || e != api.OK {
			t.Errorf("Scaled(0, %d): %v, %d", k, x, int(e))
		}
	}
	for _, m := range []uint64{1e15, 1e15 + 1, 1 << 53, 1 << 63, 1<<63 - 1, math.MaxUint64} {
		for k := -24; k <= 24; k++ {
			wantNotScaled(t, m, k)
		}
	}
	for _, k := range []int{23, -23, 24, 99, -99, 1 << 32, 1<<32 + 1, -1 << 32, math.MaxInt, math.MinInt} {
		for _, m := range []uint64{0, 1, 10, 1e15 - 1, 1e15, math.MaxUint64} {
			wantNotScaled(t, m, k)
		}
	}
	for _, x := range []float64{0, minusNought, -1, -0.5, -1e-300, math.NaN(), math.Inf(1), math.Inf(-1), -math.MaxFloat64, math.SmallestNonzeroFloat64, math.MaxFloat64, 1.0 / 3, 1e37, 1e-23, 1234567890123456} {
		if m, k, e := scalar.Decimal(x); m != 0 || k != 0 || e != api.ErrArg {
			t.Errorf("Decimal(%v): %d, %d, %d", x, m, k, int(e))
		}
	}
}

func wantNotScaled(t *testing.T, m uint64, k int) {
	t.Helper()
	if x, e := scalar.Scaled(m, k); math.Float64bits(x) != 0 || e != api.ErrArg {
		t.Errorf("Scaled(%d, %d): %v, %d", m, k, x, int(e))
	}
}
