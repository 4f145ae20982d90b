package bitvec_test

import (
	"math"
	"math/rand"
	"slices"
	"testing"

	"ullage/api"
	"ullage/bitvec"
)

func vector(t *testing.T, n int) *bitvec.Vector {
	t.Helper()
	v, e := bitvec.New(n)
	if e != api.OK || v == nil || v.Len() != n {
		t.Fatalf("New(%d): error %d", n, e)
	}
	return v
}

func TestNew(t *testing.T) {
	for _, n := range []int{0, -1, api.MaxBits + 1, math.MaxInt, math.MinInt} {
		if v, e := bitvec.New(n); v != nil || e != api.ErrArg {
			t.Errorf("New(%d): error %d", n, e)
		}
	}
	for _, n := range []int{1, 63, 64, 65, api.MaxBits} {
		v := vector(t, n)
		if v.Count(0, n) != 0 || v.Fill(math.MinInt, math.MaxInt) != n || v.Count(-1, n+1) != n {
			t.Errorf("all of %d bits", n)
		}
		if last, ok := v.Last(math.MaxInt); last != n-1 || !ok {
			t.Errorf("the last of %d bits: %d", n, last)
		}
	}
}

func TestExample(t *testing.T) {
	v := vector(t, 100)
	if v.Fill(60, 70) != 10 {
		t.Error("Fill")
	}
	next, ok1 := v.Next(65)
	last, ok2 := v.Last(65)
	pick, ok3 := v.Pick(9)
	if next != 65 || last != 64 || pick != 69 || !ok1 || !ok2 || !ok3 {
		t.Errorf("Next %d, Last %d, Pick %d", next, last, pick)
	}
}

func TestBitsThatDoNotExist(t *testing.T) {
	v := vector(t, 70)
	v.Fill(0, 70)
	for _, i := range []int{-1, 70, 127, 128, math.MaxInt, math.MinInt} {
		if v.Set(i) != api.ErrRange || v.Clear(i) != api.ErrRange || v.Test(i) {
			t.Errorf("bit %d", i)
		}
	}
	for _, i := range []int{70, math.MaxInt} {
		if got, ok := v.Next(i); got != 0 || ok {
			t.Errorf("Next(%d)", i)
		}
	}
	for _, i := range []int{0, -1, math.MinInt} {
		if got, ok := v.Last(i); got != 0 || ok {
			t.Errorf("Last(%d)", i)
		}
	}
	for _, k := range []int{70, -1, math.MaxInt, math.MinInt} {
		if got, ok := v.Pick(k); got != 0 || ok {
			t.Errorf("Pick(%d)", k)
		}
	}
	if v.Fill(70, 99)+v.Wipe(-9, 0)+v.Count(9, 3)+v.Fill(math.MaxInt, math.MinInt) != 0 {
		t.Error("empty ranges")
	}
}

// same compares v with a slice of its bits.
func same(t *testing.T, v *bitvec.Vector, model []bool, from, to int) {
	t.Helper()
	var ones []int
	count, next, last := 0, -1, -1
	for i, b := range model {
		if v.Test(i) != b {
			t.Fatalf("bit %d", i)
		}
		if !b {
			continue
		}
		if got, ok := v.Pick(len(ones)); got != i || !ok {
			t.Fatalf("Pick(%d) = %d, not %d", len(ones), got, i)
		}
		ones = append(ones, i)
		if i >= from && next < 0 {
			next = i
		}
		if i < to {
			last = i
		}
		if i >= from && i < to {
			count++
		}
	}
	if got := v.Count(from, to); got != count {
		t.Fatalf("Count(%d, %d) = %d, not %d", from, to, got, count)
	}
	if got, ok := v.Next(from); ok != (next >= 0) || got != max(next, 0) {
		t.Fatalf("Next(%d) = %d, not %d", from, got, next)
	}
	if got, ok := v.Last(to); ok != (last >= 0) || got != max(last, 0) {
		t.Fatalf("Last(%d) = %d, not %d", to, got, last)
	}
	if _, ok := v.Pick(len(ones)); ok {
		t.Fatal("Pick beyond the last one")
	}
	if got := slices.Collect(v.Ones()); !slices.Equal(got, ones) {
		t.Fatalf("Ones: %d, not %d", got, ones)
	}
	if v.Count(-3, from)+v.Count(from, to)+v.Count(to, v.Len()+9) != len(ones) && from <= to {
		t.Fatal("counts do not add up")
	}
}

func TestAgainstModel(t *testing.T) {
	r := rand.New(rand.NewSource(16))
	for n, steps := range map[int]int{1: 500, 63: 1500, 64: 1500, 65: 1500, 200: 1500, 13000: 60} {
		v, model := vector(t, n), make([]bool, n)
		for range steps {
			i, from, to := r.Intn(n), r.Intn(n+6)-3, r.Intn(n+6)-3
			changed := 0
			each := func(to64 bool) {
				for j := max(from, 0); j < min(to, n); j++ {
					if model[j] != to64 {
						changed++
					}
					model[j] = to64
				}
			}
			switch r.Intn(5) {
			case 0:
				each(true)
				if got := v.Fill(from, to); got != changed {
					t.Fatalf("Fill(%d, %d) = %d, not %d", from, to, got, changed)
				}
			case 1:
				each(false)
				if got := v.Wipe(from, to); got != changed {
					t.Fatalf("Wipe(%d, %d) = %d, not %d", from, to, got, changed)
				}
			case 2:
				model[i] = true
				if v.Set(i) != api.OK {
					t.Fatal("Set")
				}
			default:
				model[i] = false
				if v.Clear(i) != api.OK {
					t.Fatal("Clear")
				}
			}
			same(t, v, model, from, to)
		}
	}
}

// TestLongRangesOfZeros has few ones among the bits of the greatest vector.
func TestLongRangesOfZeros(t *testing.T) {
	v := vector(t, api.MaxBits)
	ones := []int{0, 63, 64, 4095, 4096, 8191, 300000, 4096 * 64, 4096*64 + 1, api.MaxBits - 1}
	slices.Sort(ones)
	for _, i := range ones {
		v.Set(i)
	}
	for round := range 2 {
		for k, i := range ones {
			after, before := 0, 0
			if k+1 < len(ones) {
				after = ones[k+1]
			}
			if k > 0 {
				before = ones[k-1]
			}
			next, ok1 := v.Next(i + 1)
			last, ok2 := v.Last(i)
			if next != after || ok1 != (k+1 < len(ones)) || last != before || ok2 != (k > 0) {
				t.Errorf("after %d: %d, before it: %d", i, next, last)
			}
		}
		if round == 0 {
			v.Wipe(64, 300001)
			v.Set(5000)
			v.Clear(5000)
			ones = []int{0, 63, api.MaxBits - 1}
		}
	}
}

func TestCopyIsIndependent(t *testing.T) {
	v := vector(t, 80)
	v.Set(5)
	w := v.Copy()
	v.Set(6)
	w.Set(70)
	if !w.Test(5) || w.Test(6) || v.Test(70) || w.Len() != 80 {
		t.Error("Copy")
	}
}

func TestOnesSeesChanges(t *testing.T) {
	v := vector(t, 200)
	v.Set(3)
	v.Set(100)
	var got []int
	for i := range v.Ones() {
		got = append(got, i)
		switch i {
		case 3:
			v.Set(1)
			v.Set(4)
			v.Clear(100)
			v.Set(150)
		case 4:
			v.Set(5)
		}
		if len(got) == 4 {
			break
		}
	}
	if !slices.Equal(got, []int{3, 4, 5, 150}) {
		t.Errorf("%d", got)
	}
	for range v.Ones() {
		break
	}
}

func TestNil(t *testing.T) {
	var v *bitvec.Vector
	_, ok1 := v.Next(0)
	_, ok2 := v.Last(5)
	_, ok3 := v.Pick(0)
	if v.Set(0) != api.ErrNil || v.Clear(0) != api.ErrNil || v.Test(0) || ok1 || ok2 || ok3 {
		t.Error("bits")
	}
	if v.Fill(0, 9)+v.Wipe(0, 9)+v.Count(0, 9)+v.Len() != 0 || v.Copy() != nil {
		t.Error("numbers")
	}
	for range v.Ones() {
		t.Error("Ones")
	}
}
