package stats_test

import (
	"math"
	"math/rand"
	"slices"
	"testing"

	"ullage/api"
	"ullage/exact"
	"ullage/float"
	"ullage/stats"
)

// palette are bits of floats in the total order.
var palette = []uint64{
	0xFFFFFFFFFFFFFFFF, 0xFFF8000000000000, 0xFFF0000000000001, 0xFFF0000000000000, 0xC000000000000000, 0xBFF0000000000000, 0x8000000000000001, 0x8000000000000000,
	0, 1, 0x000FFFFFFFFFFFFF, 0x3FF0000000000000, 0x4000000000000000, 0x7FF0000000000000, 0x7FF0000000000001, 0x7FF8000000000000,
}

func row(bits []uint64) *stats.Row {
	r := stats.New()
	for _, b := range bits {
		r.Add(float.Of(b))
	}
	return r
}

func TestExample(t *testing.T) {
	r := row([]uint64{0x7FF8000000000000, 0, 1 << 63})
	first, _ := r.Pick(0)
	last, _ := r.Pick(2)
	middle, e := r.Middle()
	if float.Bits(first) != 1<<63 || float.Bits(last) != 0x7FF8000000000000 || float.Bits(middle) != 0 || e != api.OK {
		t.Errorf("%x, %x, %x", float.Bits(first), float.Bits(last), float.Bits(middle))
	}
}

// TestAgainstPositions draws floats by their positions in the palette, which order them.
func TestAgainstPositions(t *testing.T) {
	rnd := rand.New(rand.NewSource(39))
	for range 1500 {
		var positions []int
		var floats []float64
		r := stats.New()
		for range rnd.Intn(15) {
			k := rnd.Intn(len(palette))
			positions = append(positions, k)
			floats = append(floats, float.Of(palette[k]))
			r.Add(float.Of(palette[k]))
			if rnd.Intn(3) == 0 {
				r.Middle()
			}
		}
		slices.Sort(positions)
		n := len(positions)
		if r.Len() != n || !float.Same(r.Sum(), exact.Of(floats...)) || !float.Same(r.Mean(), exact.Mean(floats...)) {
			t.Fatalf("%v: sum %g, mean %g", floats, r.Sum(), r.Mean())
		}
		var kinds [5]int
		for k, position := range positions {
			got, e := r.Pick(k)
			if float.Bits(got) != palette[position] || e != api.OK {
				t.Fatalf("%v: Pick(%d) = %x", floats, k, float.Bits(got))
			}
			before, upTo := r.Ranks(got)
			if before > k || upTo <= k {
				t.Fatalf("%v: ranks of Pick(%d): %d, %d", floats, k, before, upTo)
			}
			kinds[float.Kind(got)]++
		}
		if r.Kinds() != kinds {
			t.Fatalf("%v: kinds %d", floats, r.Kinds())
		}
		middle, e := r.Middle()
		if n == 0 && (middle != 0 || e != api.ErrNone) || n > 0 && (float.Bits(middle) != palette[positions[(n-1)/2]] || e != api.OK) {
			t.Fatalf("%v: Middle %x, error %d", floats, float.Bits(middle), e)
		}
		for _, k := range []int{-1, n, math.MaxInt, math.MinInt} {
			if f, e := r.Pick(k); float.Bits(f) != 0 || e != api.ErrNone {
				t.Fatalf("Pick(%d): error %d", k, e)
			}
		}
		for range 20 {
			low, high := rnd.Intn(len(palette)), rnd.Intn(len(palette))
			before, upTo, between := 0, 0, 0
			for _, k := range positions {
				if k < low {
					before++
				}
				if k <= low {
					upTo++
				}
				if k >= low && k <= high {
					between++
				}
			}
			f := float.Of(palette[low])
			if x, y := r.Ranks(f); x != before || y != upTo {
				t.Fatalf("%v: Ranks(%x) = %d, %d", floats, palette[low], x, y)
			}
			if got := r.Between(f, float.Of(palette[high])); got != between {
				t.Fatalf("%v: Between(%x, %x) = %d, not %d", floats, palette[low], palette[high], got, between)
			}
		}
	}
}

func TestEmptyAndNil(t *testing.T) {
	var none *stats.Row
	none.Add(1)
	for _, r := range []*stats.Row{none, stats.New()} {
		_, e1 := r.Pick(0)
		_, e2 := r.Middle()
		x, y := r.Ranks(0)
		if r.Len() != 0 || float.Bits(r.Sum()) != 0 || float.Bits(r.Mean()) != 0x7FF8000000000000 || e1 != api.ErrNone || e2 != api.ErrNone || r.Kinds() != [5]int{} || r.Between(math.Inf(-1), math.Inf(1)) != 0 || x+y != 0 {
			t.Error("no floats")
		}
	}
}
