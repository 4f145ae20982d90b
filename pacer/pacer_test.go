package pacer_test

import (
	"math"
	"math/big"
	"math/rand"
	"testing"

	"ullage/api"
	"ullage/float"
	"ullage/pacer"
)

var inf, zero = math.Inf(1), math.Copysign(0, -1)

func newPacer(t *testing.T, goal, least, most float64) *pacer.Pacer {
	t.Helper()
	p, e := pacer.New(goal, least, most)
	if e != api.OK || p == nil || p.Noted() != 0 {
		t.Fatalf("New(%g, %g, %g): error %d", goal, least, most, e)
	}
	return p
}

func TestNew(t *testing.T) {
	nan := float.Of(0xFFF0000000000001)
	for _, c := range [][3]float64{{nan, 0, 1}, {1, nan, 1}, {1, 0, nan}, {1, 1, 0}, {1, 0, zero}, {1, inf, -inf}, {math.NaN(), 0, 1}} {
		if p, e := pacer.New(c[0], c[1], c[2]); p != nil || e != api.ErrArg {
			t.Errorf("New%v: error %d", c, e)
		}
	}
	for _, c := range [][3]float64{{1, 0, 1}, {-inf, -inf, inf}, {inf, zero, 0}, {0, 0, 0}, {1, inf, inf}} {
		if p := newPacer(t, c[0], c[1], c[2]); !float.Same(p.Trigger(), c[2]) {
			t.Errorf("%v: trigger %g without ratios", c, p.Trigger())
		}
	}
}

func TestExampleAndNote(t *testing.T) {
	p := newPacer(t, 1, 0, 1)
	for _, c := range [][2]int{{-1, 4}, {1, 0}, {1, -1}, {1<<40 + 1, 4}, {1, 1<<40 + 1}, {math.MinInt, 1}, {math.MaxInt, math.MaxInt}} {
		if e := p.Note(c[0], c[1]); e != api.ErrArg || p.Noted() != 0 || p.Trigger() != 1 {
			t.Errorf("Note%v: error %d", c, e)
		}
	}
	if e := p.Note(1, 4); e != api.OK || p.Noted() != 1 || p.Trigger() != 0.5 {
		t.Errorf("trigger %g", p.Trigger())
	}
	for _, c := range [][2]int{{0, 1}, {1 << 40, 1 << 40}, {1 << 40, 1}} {
		if e := p.Note(c[0], c[1]); e != api.OK {
			t.Errorf("Note%v: error %d", c, e)
		}
	}
	for range 20 {
		p.Note(1, 4)
	}
	if p.Noted() != 8 || p.Trigger() != 0.5 {
		t.Errorf("%d ratios, trigger %g", p.Noted(), p.Trigger())
	}
}

func TestBounds(t *testing.T) {
	for _, c := range []struct {
		goal, least, most float64
		live, words       int
		want              float64
	}{
		{inf, 0, 0.75, 0, 1, 0.75}, {inf, 0, 0.75, 1, 2, 0.75}, {-inf, 0.25, 0.75, 1, 2, 0.25}, {-inf, -inf, 0.75, 1, 2, -inf}, {inf, 0, inf, 1, 2, inf},
		{-1, zero, 1, 1, 2, 0}, {-1, 0, 1, 1, 2, 0}, {-1, zero, zero, 1, 2, zero}, {-2, 0, 1, 1, 2, 0}, {-2, zero, 1, 1, 2, zero},
		{1, 0.75, 1, 1, 4, 0.75}, {3, 0, 0.75, 1, 4, 0.75}, {2, 0, 1, 1, 4, 0.75}, {0, 0, 1, 1, 4, 0.25}, {0, 0, 1, 0, 4, 0},
	} {
		p := newPacer(t, c.goal, c.least, c.most)
		p.Note(c.live, c.words)
		if got := p.Trigger(); !float.Same(got, c.want) {
			t.Errorf("%+v: %g", c, got)
		}
	}
}

// rounded is an exact result rounded to float64.
func rounded(x *big.Float) float64 {
	f, _ := x.Float64()
	return f
}

// TestRounding compares triggers with products and sums that are rounded one by one.
func TestRounding(t *testing.T) {
	r := rand.New(rand.NewSource(37))
	wide := func(f float64) *big.Float { return new(big.Float).SetPrec(2000).SetFloat64(f) }
	fused := 0
	for range 5000 {
		goal := r.Float64() * 3
		p := newPacer(t, goal, -inf, inf)
		var ratios []float64
		for range 1 + r.Intn(12) {
			live, words := r.Intn(1000), 1+r.Intn(1000)
			p.Note(live, words)
			ratios = append(ratios, float64(live)/float64(words))
		}
		ratios = ratios[max(0, len(ratios)-8):]
		sum := wide(0)
		for _, f := range ratios {
			sum.Add(sum, wide(f))
		}
		mean := rounded(sum) / float64(len(ratios))
		product := rounded(wide(0).Mul(wide(goal), wide(mean)))
		want := rounded(wide(0).Add(wide(mean), wide(product)))
		if math.FMA(goal, mean, mean) != want {
			fused++
		}
		if got := p.Trigger(); got != want || p.Noted() != len(ratios) {
			t.Fatalf("goal %g, %v: %g, not %g", goal, ratios, got, want)
		}
	}
	if fused == 0 {
		t.Error("no case in which rounding once differs")
	}
}

func TestOrderOfRatios(t *testing.T) {
	r := rand.New(rand.NewSource(38))
	for range 500 {
		l := make([][2]int, 8)
		for i := range l {
			l[i] = [2]int{r.Intn(100), 1 + r.Intn(100)}
		}
		goal := r.Float64() * 4
		p, q := newPacer(t, goal, 0.1, 0.9), newPacer(t, goal, 0.1, 0.9)
		for range 5 {
			p.Note(r.Intn(9), 9)
		}
		for i, k := range r.Perm(8) {
			p.Note(l[i][0], l[i][1])
			q.Note(l[k][0], l[k][1])
		}
		got := p.Trigger()
		if !float.Same(got, q.Trigger()) || got < 0.1 || got > 0.9 {
			t.Fatalf("%v: %g, %g", l, got, q.Trigger())
		}
	}
}

func TestDue(t *testing.T) {
	p := newPacer(t, 1, 0, 1)
	p.Note(1, 4)
	for _, c := range []struct {
		used, words int
		want        bool
	}{{50, 100, true}, {49, 100, false}, {0, 0, true}, {-1, 0, false}, {0, -5, true}, {-3, -5, false}, {math.MaxInt, math.MaxInt, true}, {math.MinInt, 1, false}} {
		if got := p.Due(c.used, c.words); got != c.want {
			t.Errorf("Due(%d, %d)", c.used, c.words)
		}
	}
	q := newPacer(t, 1, inf, inf)
	if q.Due(math.MaxInt, 1) || q.Due(1, 0) || !q.Due(math.MinInt, -1) {
		t.Error("an infinite trigger")
	}
}

func TestNil(t *testing.T) {
	var p *pacer.Pacer
	if p.Note(0, 0) != api.ErrNil || !float.Same(p.Trigger(), 0) || p.Due(5, 1) || p.Noted() != 0 {
		t.Error("nil")
	}
}
