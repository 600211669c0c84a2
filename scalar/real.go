package scalar

import (
	"math"
	"strconv"
	"strings"

	"turnpike/api"
)

// Below tooGreat and up to 10^maxPower every number M and every power of ten is a float64, so that one operation on the two is rounded once.
const (
	mostDigits = 15
	tooGreat   = 1000000000000000
	maxPower   = 22
)

// scaled: the value of m with k.
func scaled(m float64, k int) float64 {
	if k < 0 {
		return m / powerOfTen(-k)
	}
	return m * powerOfTen(k)
}

// unscaled: about how often x has 10^k.
func unscaled(x float64, k int) float64 {
	if k < 0 {
		return x * powerOfTen(-k)
	}
	return x / powerOfTen(k)
}

// powerOfTen: 10^k, exactly up to maxPower.
func powerOfTen(k int) float64 {
	p := 1.0
	for range k {
		p *= 10
	}
	return p
}

// realText: a real's text, or ErrArg, if it may not be told.
func realText(x float64) (string, api.Errno) {
	switch {
	case x != x:
		return ".nan", api.OK
	case x > math.MaxFloat64:
		return ".inf", api.OK
	case x < -math.MaxFloat64:
		return "-.inf", api.OK
	case x == 0 && 1/x < 0:
		return "-0.0", api.OK
	case x == 0:
		return "0.0", api.OK
	}
	m, k, e := Decimal(math.Abs(x))
	if e != api.OK {
		return "", e
	}
	if x < 0 {
		return "-" + decimalText(m, k), api.OK
	}
	return decimalText(m, k), api.OK
}

// decimalText: the text of a real's M and k.
func decimalText(m uint64, k int) string {
	digits := strconv.FormatUint(m, 10)
	n := len(digits)
	switch {
	case k < 0:
		digits = strings.Repeat("0", max(0, 1-k-n)) + digits
		point := len(digits) + k
		return digits[:point] + "." + digits[point:]
	case n+k+1 <= mostDigits:
		return digits + strings.Repeat("0", k) + ".0"
	case n == 1:
		digits += "0"
	}
	return digits[:1] + "." + digits[1:] + "e" + strconv.Itoa(k+n-1)
}

// sameReal: two noughts are told apart by what 1 divided by them is.
func sameReal(a, b float64) bool {
	switch {
	case a != a || b != b:
		return a != a && b != b
	case a == 0 && b == 0:
		return 1/a == 1/b
	}
	return a == b
}
