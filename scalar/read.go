package scalar

import (
	"math"
	"strconv"

	"turnpike/api"
)

// plain: what a plain text says; of a Text no more than that it is one.
func plain(text string) Value {
	switch text {
	case "", "~", "null":
		return Value{Kind: Null}
	case "true", "false":
		return Value{Kind: Bool, Bool: text == "true"}
	case ".nan":
		return Value{Kind: Real, Real: math.NaN()}
	case ".inf":
		return Value{Kind: Real, Real: math.Inf(1)}
	case "-.inf":
		return Value{Kind: Real, Real: math.Inf(-1)}
	}
	n, is := scan(text)
	if !is {
		return Value{Kind: Text}
	}
	if n.rest == "" {
		return intOf(text)
	}
	return realOf(n)
}

// intOf: what a text of an int's form says.
func intOf(text string) Value {
	n, err := strconv.ParseInt(text, 10, 64)
	if err != nil {
		return Value{Kind: Text}
	}
	return Value{Kind: Int, Int: n}
}

// realOf: what a text of a real's form says.
func realOf(n number) Value {
	m, err := strconv.ParseUint(n.whole+n.rest, 10, 64)
	if err != nil {
		return Value{Kind: Text}
	}
	x, e := Scaled(m, n.power-len(n.rest))
	if e != api.OK {
		return Value{Kind: Text}
	}
	if n.minus {
		x = -x
	}
	return Value{Kind: Real, Real: x}
}
