package masks_test

import (
	"math"
	"math/rand"
	"testing"

	"ullage/masks"
)

// bounds are the ends of ranges that the document names, and some beyond them.
var bounds = []int{math.MinInt, -65, -1, 0, 1, 2, 31, 32, 33, 62, 63, 64, 65, 128, math.MaxInt}

func has(w uint64, i int) bool { return i >= 0 && i < 64 && w>>uint(i)&1 == 1 }

func words() []uint64 {
	l := []uint64{0, 1, 3, 1 << 63, 1<<63 | 1, math.MaxUint64, 0xF0, 0xAAAAAAAAAAAAAAAA, 0x5555555555555555, 0xFFFFFFFF00000000}
	r := rand.New(rand.NewSource(1))
	for range 60 {
		l = append(l, r.Uint64(), r.Uint64()&r.Uint64()&r.Uint64(), r.Uint64()|r.Uint64())
	}
	return l
}

func TestRun(t *testing.T) {
	for _, from := range bounds {
		for _, to := range bounds {
			got := masks.Run(from, to)
			for i := range 64 {
				if has(got, i) != (i >= from && i < to) {
					t.Fatalf("Run(%d, %d) = %x, number %d", from, to, got, i)
				}
			}
		}
	}
}

func TestCountNextLast(t *testing.T) {
	for _, w := range words() {
		for _, from := range bounds {
			next, last := 64, -1
			for i := range 64 {
				if has(w, i) && i >= from && next == 64 {
					next = i
				}
				if has(w, i) && i < from {
					last = i
				}
			}
			if got := masks.Next(w, from); got != next {
				t.Errorf("Next(%x, %d) = %d, not %d", w, from, got, next)
			}
			if got := masks.Last(w, from); got != last {
				t.Errorf("Last(%x, %d) = %d, not %d", w, from, got, last)
			}
			for _, to := range bounds {
				n := 0
				for i := range 64 {
					if has(w, i) && i >= from && i < to {
						n++
					}
				}
				if got := masks.Count(w, from, to); got != n {
					t.Errorf("Count(%x, %d, %d) = %d, not %d", w, from, to, got, n)
				}
			}
		}
	}
}

func TestPick(t *testing.T) {
	for _, w := range words() {
		k := 0
		for i := range 64 {
			if !has(w, i) {
				continue
			}
			if got := masks.Pick(w, k); got != i {
				t.Errorf("Pick(%x, %d) = %d, not %d", w, k, got, i)
			}
			k++
		}
		for _, beyond := range []int{k, k + 1, 64, math.MaxInt, -1, math.MinInt} {
			if got := masks.Pick(w, beyond); got != 64 {
				t.Errorf("Pick(%x, %d) = %d, not 64", w, beyond, got)
			}
		}
	}
}

func TestPackSpreadTurn(t *testing.T) {
	if masks.Pack(11, 6) != 1 || masks.Spread(3, 10) != 10 {
		t.Error("the example")
	}
	l := words()
	for j, w := range l {
		mask := l[len(l)-1-j]
		packed, spread, turned := masks.Pack(w, mask), masks.Spread(w, mask), masks.Turn(w)
		for i := range 64 {
			p := masks.Pick(mask, i)
			if has(packed, i) != (p != 64 && has(w, p)) {
				t.Errorf("Pack(%x, %x) = %x, number %d", w, mask, packed, i)
			}
			if p != 64 && has(spread, p) != has(w, i) {
				t.Errorf("Spread(%x, %x) = %x, number %d", w, mask, spread, p)
			}
			if has(turned, 63-i) != has(w, i) {
				t.Errorf("Turn(%x) = %x, number %d", w, turned, i)
			}
		}
		if spread&^mask != 0 {
			t.Errorf("Spread(%x, %x) = %x leaves the mask", w, mask, spread)
		}
		n := masks.Count(mask, 0, 64)
		if masks.Pack(spread, mask) != w&masks.Run(0, n) || masks.Spread(packed, mask) != w&mask {
			t.Errorf("Pack and Spread of %x with %x are not inverse", w, mask)
		}
	}
}

func TestPower(t *testing.T) {
	powers := map[int]bool{}
	for i := range 63 {
		powers[1<<i] = true
	}
	for i := range 63 {
		for _, n := range []int{1 << i, 1<<i - 1, 1<<i + 1, -1 << i, 3 << i} {
			if masks.Power(n) != powers[n] {
				t.Errorf("Power(%d)", n)
			}
		}
	}
	for _, n := range []int{0, -1, math.MinInt, math.MaxInt} {
		if masks.Power(n) {
			t.Errorf("Power(%d)", n)
		}
	}
}

func TestUpDown(t *testing.T) {
	for _, unit := range []int{1, 2, 8, 1 << 30} {
		for _, n := range []int{0, 1, 7, 8, 9, 1<<30 - 1, 1 << 30, 1<<30 + 1, 1<<60 - 1, 1 << 60} {
			up, down := masks.Up(n, unit), masks.Down(n, unit)
			if up%unit != 0 || up < n || up-unit >= n || down%unit != 0 || down > n || down+unit <= n {
				t.Errorf("%d to %d: %d, %d", n, unit, up, down)
			}
		}
		for _, n := range []int{-1, math.MinInt, 1<<60 + 1, math.MaxInt} {
			if masks.Up(n, unit) != -1 || masks.Down(n, unit) != -1 {
				t.Errorf("%d to %d is not refused", n, unit)
			}
		}
	}
	for _, unit := range []int{0, -1, -8, 3, 12, 1 << 31, 1<<30 + 1, math.MinInt, math.MaxInt} {
		if masks.Up(5, unit) != -1 || masks.Down(5, unit) != -1 {
			t.Errorf("unit %d is not refused", unit)
		}
	}
}

func TestCountsAddUp(t *testing.T) {
	for _, w := range words() {
		for a := -2; a < 68; a += 3 {
			for b := a; b < 68; b += 5 {
				if masks.Count(w, -9, a)+masks.Count(w, a, b)+masks.Count(w, b, 99) != masks.Count(w, 0, 64) {
					t.Errorf("counts of %x at %d and %d", w, a, b)
				}
			}
		}
	}
}
