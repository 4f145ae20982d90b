// Package masks treats words of 64 bits as sets of the numbers 0 to 63 (layer 1).
package masks

import "math/bits"

const (
	width    = 64
	maxUnit  = 1 << 30
	maxValue = 1 << 60
)

// Run returns the word that contains exactly the range from..to.
func Run(from, to int) uint64 {
	from, to = clamp(from), clamp(to)
	return low(to) &^ low(from)
}

// Count returns how many numbers of the range from..to are in w.
func Count(w uint64, from, to int) int {
	return bits.OnesCount64(w & Run(from, to))
}

// Next returns the smallest number in w that is at least from, or 64.
func Next(w uint64, from int) int {
	return bits.TrailingZeros64(w & Run(from, width))
}

// Last returns the largest number in w that is less than below, or -1.
func Last(w uint64, below int) int {
	return bits.Len64(w&Run(0, below)) - 1
}

// Pick returns the number in w of which exactly k smaller ones are in w, or 64.
func Pick(w uint64, k int) int {
	if k < 0 || k >= bits.OnesCount64(w) {
		return width
	}
	at := 0
	for half := width / 2; half > 0; half /= 2 {
		below := Count(w, at, at+half)
		if k >= below {
			k -= below
			at += half
		}
	}
	return at
}

// Pack gathers the bits of w that mask selects.
func Pack(w, mask uint64) uint64 {
	packed, next := uint64(0), 0
	for i := range width {
		if mask>>i&1 == 1 {
			packed |= w >> i & 1 << next
			next++
		}
	}
	return packed
}

// Spread distributes the low bits of w to the numbers that are in mask.
func Spread(w, mask uint64) uint64 {
	spread, next := uint64(0), 0
	for i := range width {
		if mask>>i&1 == 1 {
			spread |= w >> next & 1 << i
			next++
		}
	}
	return spread
}

// Turn reverses the bits of w.
func Turn(w uint64) uint64 { return bits.Reverse64(w) }

// Power reports whether n is a power of two.
func Power(n int) bool { return n > 0 && n&(n-1) == 0 }

// Up returns the smallest multiple of unit that is at least n, or -1.
func Up(n, unit int) int {
	if !roundable(n, unit) {
		return -1
	}
	return (n + unit - 1) &^ (unit - 1)
}

// Down returns the largest multiple of unit that is at most n, or -1.
func Down(n, unit int) int {
	if !roundable(n, unit) {
		return -1
	}
	return n &^ (unit - 1)
}

// roundable reports whether n and unit are within the bounds of Up and Down.
func roundable(n, unit int) bool {
	return Power(unit) && unit <= maxUnit && n >= 0 && n <= maxValue
}

// clamp returns the bound of a range that has the same meaning as i.
func clamp(i int) int { return min(max(i, 0), width) }

// low returns the word that contains the numbers below n; a shift by all 64 bits leaves none.
func low(n int) uint64 { return 1<<n - 1 }
