package single

import (
	"bytes"
	"math"
	"strconv"
	"strings"

	"herald/api"
)

const (
	infiniteText = "infinite"
	noneText     = "none"

	mostPlaces = 149 // digits behind the point: those of 2^-149
)

// Text is a single's number in decimal digits.
func Text(a uint32) string {
	p := Parts(a)
	var l []byte
	if p.Neg {
		l = append(l, '-')
	}
	switch p.Kind {
	case api.SingleNone:
		l = append(l, noneText...)
	case api.SingleInfinite:
		l = append(l, infiniteText...)
	default:
		l = strconv.AppendFloat(l, float64(number(a&^signBit)), 'f', mostPlaces, 64)
		l = bytes.TrimSuffix(bytes.TrimRight(l, "0"), []byte("."))
	}
	return string(l)
}

// Parse is the single nearest to a decimal number.
func Parse(s string) (uint32, int, api.Errno) {
	if len(s) > api.MaxDecimal {
		return 0, api.MaxDecimal, api.ErrText
	}
	switch s {
	case infiniteText:
		return singles.infinite(), 0, api.OK
	case "-" + infiniteText:
		return signBit | singles.infinite(), 0, api.OK
	case noneText:
		return singles.none(), 0, api.OK
	}
	at, ok := numberEnd(s)
	if !ok {
		at = max(at, shared(s, infiniteText), shared(s, "-"+infiniteText), shared(s, noneText))
		return 0, at, api.ErrDecimalText
	}
	// The one error that is left is a number that is too great, and the answer beside it is infinite, as it should be.
	x, _ := strconv.ParseFloat(s, 32)
	return math.Float32bits(float32(x)), 0, api.OK
}

// numberEnd is how far s is the beginning of a number's text, and whether it is one as a whole.
func numberEnd(s string) (int, bool) {
	at := 0
	if isOneOf(s, at, "-") {
		at++
	}
	at, ok := digitsEnd(s, at)
	if ok && isOneOf(s, at, ".") {
		at, ok = digitsEnd(s, at+1)
	}
	if ok && isOneOf(s, at, "eE") {
		at++
		if isOneOf(s, at, "+-") {
			at++
		}
		at, ok = digitsEnd(s, at)
	}
	return at, ok && at == len(s)
}

// digitsEnd is the place behind the digits that begin at a place; false, if there are none.
func digitsEnd(s string, at int) (int, bool) {
	end := at
	for isOneOf(s, end, "0123456789") {
		end++
	}
	return end, end > at
}

// isOneOf tells whether s has one of some bytes at a place.
func isOneOf(s string, at int, some string) bool {
	return at < len(s) && strings.IndexByte(some, s[at]) >= 0
}

// shared is how many bytes two texts have in common from their beginnings on.
func shared(a, b string) int {
	n := 0
	for n < min(len(a), len(b)) && a[n] == b[n] {
		n++
	}
	return n
}
