// Package float classifies and orders float64 values by their bits and represents them as text (layer 2).
package float

import (
	"math"
	"strconv"
	"strings"

	"ullage/api"
)

// The kinds of floats.
const (
	Zero = iota
	Small
	Plain
	Infinite
	NaN
)

const (
	signBit  = 1 << 63
	infBits  = 0x7FF0000000000000
	nanBits  = 0x7FF8000000000000
	fraction = 1<<52 - 1
	// A float with the exponent bits e, not 0, is its significand times 2^(e - bias).
	bias = 1075
)

// Bits returns the bits of f.
func Bits(f float64) uint64 { return math.Float64bits(f) }

// Of returns the float with the bits b.
func Of(b uint64) float64 { return math.Float64frombits(b) }

// Kind returns the kind of f.
func Kind(f float64) int {
	b := Bits(f) &^ signBit
	switch {
	case b == 0:
		return Zero
	case b <= fraction:
		return Small
	case b < infBits:
		return Plain
	case b == infBits:
		return Infinite
	}
	return NaN
}

// Sign reports whether the sign bit of f is set.
func Sign(f float64) bool { return Bits(f)&signBit != 0 }

// Same reports whether f and g are identical.
func Same(f, g float64) bool { return Bits(f) == Bits(g) }

// Canon returns the canonical NaN for any NaN, and otherwise f.
func Canon(f float64) float64 {
	if Kind(f) == NaN {
		return Of(nanBits)
	}
	return f
}

// Before reports whether f precedes g in the total order.
func Before(f, g float64) bool { return rank(f) < rank(g) }

// rank maps floats to numbers in the total order: with the sign bit, greater bits come first.
func rank(f float64) uint64 {
	if Sign(f) {
		return ^Bits(f)
	}
	return Bits(f) | signBit
}

// Up returns the next float after f.
func Up(f float64) float64 {
	b := Bits(f)
	switch {
	case Kind(f) == NaN || b == infBits:
		return f
	case Kind(f) == Zero:
		return Of(1)
	case Sign(f):
		return Of(b - 1)
	}
	return Of(b + 1)
}

// Down returns the float before f, as Up does for the opposite sign.
func Down(f float64) float64 {
	if Kind(f) == NaN {
		return f
	}
	return negate(Up(negate(f)))
}

func negate(f float64) float64 { return Of(Bits(f) ^ signBit) }

// Least returns the argument that is first in the total order.
func Least(l ...float64) float64 {
	return choose(l, Of(infBits), Before)
}

// Most returns the argument that is last in the total order.
func Most(l ...float64) float64 {
	return choose(l, Of(infBits|signBit), func(f, g float64) bool { return Before(g, f) })
}

// choose returns the float of l that is better than the others, start if there is none, and NaN if there is one.
func choose(l []float64, start float64, better func(f, g float64) bool) float64 {
	best := start
	for _, f := range l {
		if Kind(f) == NaN {
			return Of(nanBits)
		}
		if better(f, best) {
			best = f
		}
	}
	return best
}

// Text returns the text of f.
func Text(f float64) string {
	switch Kind(f) {
	case NaN:
		return "nan"
	case Infinite:
		return minus(f) + "inf"
	case Zero:
		return minus(f) + "0p0"
	}
	m, e := split(f)
	return minus(f) + strconv.FormatUint(m, 10) + "p" + strconv.Itoa(e)
}

func minus(f float64) string {
	if Sign(f) {
		return "-"
	}
	return ""
}

// split returns the odd m and the e for which a finite float other than zero is m * 2^e, without its sign.
func split(f float64) (uint64, int) {
	m, e := Bits(f)&fraction, int(Bits(f)&infBits>>52)
	if e == 0 {
		e = 1
	} else {
		m |= fraction + 1
	}
	for m&1 == 0 {
		m >>= 1
		e++
	}
	return m, e - bias
}

// Read returns the float whose text is s.
func Read(s string) (float64, api.Errno) {
	f := guess(s)
	if Text(f) != s {
		return 0, api.ErrForm
	}
	return f, api.OK
}

// guess returns the float whose text is s, if there is one, and otherwise some float:
// a number that no float has is noticed by its different text.
func guess(s string) float64 {
	digits, negative := strings.CutPrefix(s, "-")
	f := 0.0
	switch digits {
	case "nan":
		return Of(nanBits)
	case "inf":
		f = Of(infBits)
	default:
		before, after, _ := strings.Cut(digits, "p")
		m, _ := strconv.ParseUint(before, 10, 53)
		e, _ := strconv.ParseInt(after, 10, 12)
		f = math.Ldexp(float64(m), int(e))
	}
	if negative {
		return negate(f)
	}
	return f
}
