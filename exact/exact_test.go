package exact_test

import (
	"math"
	"math/big"
	"math/rand"
	"testing"

	"ullage/exact"
	"ullage/float"
)

const (
	minusZero = uint64(1) << 63
	inf       = uint64(0x7FF0000000000000)
	nan       = uint64(0x7FF8000000000000)
)

var (
	zero     = float.Of(minusZero)
	smallest = float.Of(1)
	largest  = math.MaxFloat64
)

func p(e int) float64 { return math.Ldexp(1, e) }

// slow is the exact sum in arbitrary precision, and how many infinities of each sign and NaNs there are.
type slow struct {
	sum              *big.Float
	n, minusZeros    int
	nans, plus, less int
}

func slowSum(l []float64) slow {
	s := slow{sum: new(big.Float).SetPrec(2300)}
	for _, f := range l {
		s.n++
		switch {
		case math.IsNaN(f):
			s.nans++
		case math.IsInf(f, 1):
			s.plus++
		case math.IsInf(f, -1):
			s.less++
		default:
			if f == 0 && math.Signbit(f) {
				s.minusZeros++
			}
			s.sum.Add(s.sum, new(big.Float).SetFloat64(f))
		}
	}
	return s
}

func (s slow) isNaN() bool { return s.nans > 0 || s.plus > 0 && s.less > 0 }

func (s slow) whole() uint64 {
	switch {
	case s.isNaN():
		return nan
	case s.plus > 0:
		return inf
	case s.less > 0:
		return minusZero | inf
	case s.sum.Sign() == 0 && s.n > 0 && s.minusZeros == s.n:
		return minusZero
	case s.sum.Sign() == 0:
		return 0
	}
	f, _ := s.sum.Float64()
	return math.Float64bits(f)
}

func (s slow) rank() *big.Float {
	if s.plus > 0 {
		return new(big.Float).SetInf(false)
	}
	if s.less > 0 {
		return new(big.Float).SetInf(true)
	}
	return s.sum
}

func someFloats(r *rand.Rand) []float64 {
	l := make([]float64, r.Intn(12))
	for i := range l {
		switch r.Intn(12) {
		case 0:
			l[i] = zero
		case 1:
			l[i] = 0
		case 2:
			l[i] = float.Of(r.Uint64() & (minusZero | 1<<52 - 1))
		case 3:
			if r.Intn(8) == 0 {
				l[i] = float.Of(inf | r.Uint64()&minusZero)
			}
		case 4:
			if r.Intn(8) == 0 {
				l[i] = float.Of(inf | r.Uint64())
			}
		case 5:
			l[i] = []float64{largest, -largest, p(970), -p(970), p(969), smallest, -smallest}[r.Intn(7)]
		case 6, 7:
			l[i] = math.Ldexp(float64(r.Intn(9)-4), r.Intn(8)*53-200)
		case 8:
			if i > 0 {
				l[i] = -l[i-1]
			}
		default:
			b := r.Uint64()
			if b&inf != inf {
				l[i] = float.Of(b)
			}
		}
	}
	return l
}

func TestOfNamedCases(t *testing.T) {
	odd := float.Of(minusZero | inf | 1)
	for _, c := range []struct {
		l    []float64
		want uint64
	}{
		{nil, 0},
		{[]float64{zero}, minusZero}, {[]float64{zero, zero}, minusZero}, {[]float64{zero, 0}, 0}, {[]float64{0}, 0},
		{[]float64{1, -1}, 0}, {[]float64{-1, 1, zero}, 0}, {[]float64{zero, 5, -5}, 0},
		{[]float64{p(1000), 1, -p(1000)}, math.Float64bits(1)},
		{[]float64{p(1023), p(1023)}, inf}, {[]float64{-p(1023), -p(1023)}, minusZero | inf},
		{[]float64{p(1023), p(1023), -p(1023)}, math.Float64bits(p(1023))},
		{[]float64{largest, p(969)}, inf - 1}, {[]float64{largest, p(970)}, inf}, {[]float64{largest, p(970), -smallest}, inf - 1},
		{[]float64{largest, p(969), p(969)}, inf}, {[]float64{-largest, -p(970)}, minusZero | inf},
		{[]float64{smallest, smallest}, 2}, {[]float64{smallest, -smallest}, 0}, {[]float64{-smallest}, minusZero | 1},
		{[]float64{float.Of(1<<52 - 1), smallest}, 1 << 52},
		{[]float64{1, p(-53)}, math.Float64bits(1)}, {[]float64{1, p(-53), smallest}, math.Float64bits(1) + 1}, {[]float64{float.Up(1), p(-53)}, math.Float64bits(1) + 2},
		{[]float64{2 - p(-52), p(-53)}, math.Float64bits(2)},
		{[]float64{math.Inf(1), -largest}, inf}, {[]float64{math.Inf(-1), 5}, minusZero | inf},
		{[]float64{math.Inf(1), math.Inf(-1)}, nan}, {[]float64{1, odd}, nan}, {[]float64{odd, math.Inf(1)}, nan},
	} {
		if got := float.Bits(exact.Of(c.l...)); got != c.want {
			t.Errorf("Of(%v) = %x, not %x", c.l, got, c.want)
		}
	}
}

func TestAgainstArbitraryPrecision(t *testing.T) {
	r := rand.New(rand.NewSource(3))
	for range 30000 {
		a, b := someFloats(r), someFloats(r)
		s, o := slowSum(a), slowSum(b)
		if got := float.Bits(exact.Of(a...)); got != s.whole() {
			t.Fatalf("Of(%v) = %x, not %x", a, got, s.whole())
		}
		order, ok := exact.Compare(a, b)
		want := 0
		if !s.isNaN() && !o.isNaN() {
			want = s.rank().Cmp(o.rank())
		}
		if order != want || ok != (!s.isNaN() && !o.isNaN()) {
			t.Fatalf("Compare(%v, %v) = %d, %v", a, b, order, ok)
		}
		mean := nan
		if len(a) > 0 {
			if m := float.Of(s.whole()) / float64(len(a)); !math.IsNaN(m) {
				mean = math.Float64bits(m)
			}
		}
		if got := float.Bits(exact.Mean(a...)); got != mean {
			t.Fatalf("Mean(%v) = %x, not %x", a, got, mean)
		}
		if len(a) == 2 {
			plain := float.Bits(float.Canon(a[0] + a[1]))
			if got := float.Bits(exact.Of(a...)); got != plain {
				t.Fatalf("Of(%v) = %x, not %x", a, got, plain)
			}
		}
	}
}

func TestOrderAndMerging(t *testing.T) {
	r := rand.New(rand.NewSource(4))
	for range 3000 {
		l := append(someFloats(r), someFloats(r)...)
		want := float.Bits(exact.Of(l...))
		parts := []*exact.Sum{exact.New(), exact.New(), exact.New()}
		for _, i := range r.Perm(len(l)) {
			parts[r.Intn(3)].Add(l[i])
		}
		second := float.Bits(parts[1].Whole())
		parts[2].Merge(parts[1])
		parts[0].Merge(parts[2])
		if got := float.Bits(parts[0].Whole()); got != want || parts[0].Count() != len(l) {
			t.Fatalf("%v merged: %x, not %x; count %d", l, got, want, parts[0].Count())
		}
		if float.Bits(parts[1].Whole()) != second {
			t.Fatal("Merge changed its argument")
		}
		before := parts[0].Whole()
		x := l[:0:0]
		for _, f := range l {
			if !math.IsNaN(f) && !math.IsInf(f, 0) {
				x = append(x, f, -f)
			}
		}
		for _, f := range x {
			parts[0].Add(f)
		}
		if before != 0 && float.Bits(parts[0].Whole()) != float.Bits(before) {
			t.Fatalf("numbers and their negations change %x", float.Bits(before))
		}
	}
}

func TestManySteps(t *testing.T) {
	s := exact.New()
	for range 100000 {
		s.Add(largest)
	}
	for range 100000 {
		s.Add(-largest)
	}
	s.Add(smallest)
	if float.Bits(s.Whole()) != 1 || s.Count() != 200001 {
		t.Error("a long sum")
	}
	s = exact.New()
	s.Add(3)
	for range 20 {
		s.Merge(s)
	}
	if s.Whole() != 3*p(20) || s.Count() != 1<<20 {
		t.Error("a sum merged into itself")
	}
}

func TestMergingZerosAndInfinities(t *testing.T) {
	for _, c := range []struct {
		a, b []float64
		want uint64
	}{
		{[]float64{zero}, []float64{zero}, minusZero}, {nil, []float64{zero}, minusZero}, {[]float64{zero}, nil, minusZero}, {nil, nil, 0},
		{[]float64{zero}, []float64{0}, 0}, {[]float64{0}, []float64{zero}, 0}, {[]float64{1}, []float64{-1, zero}, 0},
		{[]float64{math.Inf(1)}, []float64{1}, inf}, {[]float64{1}, []float64{math.Inf(-1)}, minusZero | inf}, {[]float64{math.Inf(1)}, []float64{math.Inf(-1)}, nan}, {[]float64{1}, []float64{math.NaN()}, nan},
	} {
		s, o := exact.New(), exact.New()
		for _, f := range c.a {
			s.Add(f)
		}
		for _, f := range c.b {
			o.Add(f)
		}
		s.Merge(o)
		if got := float.Bits(s.Whole()); got != c.want || s.Count() != len(c.a)+len(c.b) || o.Count() != len(c.b) {
			t.Errorf("%v and %v: %x, not %x", c.a, c.b, got, c.want)
		}
	}
}

func TestNilAndEmpty(t *testing.T) {
	var s *exact.Sum
	s.Add(1)
	s.Merge(exact.New())
	if float.Bits(s.Whole()) != 0 || s.Count() != 0 {
		t.Error("nil")
	}
	o := exact.New()
	if float.Bits(o.Whole()) != 0 || o.Count() != 0 {
		t.Error("no floats")
	}
	o.Add(zero)
	o.Merge(nil)
	o.Merge(exact.New())
	if float.Bits(o.Whole()) != minusZero || o.Count() != 1 {
		t.Error("merging nothing")
	}
	if n, ok := exact.Compare(nil, []float64{zero}); n != 0 || !ok {
		t.Error("zeros are equal")
	}
	if float.Bits(exact.Mean()) != nan {
		t.Error("the mean of nothing")
	}
	l := []float64{1, 2, 3}
	if exact.Mean(l...) != 2 || l[0] != 1 || l[2] != 3 {
		t.Error("Mean")
	}
}

func TestCompareIsNotRounded(t *testing.T) {
	if n, ok := exact.Compare([]float64{1, p(-200)}, []float64{1}); n != 1 || !ok {
		t.Error("a difference that rounding hides")
	}
	if n, ok := exact.Compare([]float64{largest, largest}, []float64{largest, largest, 1}); n != -1 || !ok {
		t.Error("sums that are rounded to infinity")
	}
	if n, ok := exact.Compare([]float64{largest, largest}, []float64{math.Inf(1)}); n != -1 || !ok {
		t.Error("a large sum and infinity")
	}
	if n, ok := exact.Compare([]float64{math.Inf(-1)}, []float64{math.Inf(-1), 4}); n != 0 || !ok {
		t.Error("equal infinities")
	}
}
