package roots_test

import (
	"math"
	"math/rand"
	"slices"
	"testing"

	"ullage/api"
	"ullage/roots"
)

func table(t *testing.T, n int) *roots.Table {
	t.Helper()
	r, e := roots.New(n)
	if e != api.OK || r.Len() != n || !slices.Equal(r.All(), make([]int, n)) {
		t.Fatalf("New(%d): error %d", n, e)
	}
	return r
}

func TestNew(t *testing.T) {
	for _, n := range []int{0, -1, 65, math.MaxInt, math.MinInt} {
		if r, e := roots.New(n); r != nil || e != api.ErrArg {
			t.Errorf("New(%d): error %d", n, e)
		}
	}
	table(t, 1)
	table(t, 64)
}

func TestExampleAndErrors(t *testing.T) {
	r := table(t, 3)
	if r.Set(1, 9) != api.OK || r.Copy(0, 1) != api.OK {
		t.Error("Set and Copy")
	}
	if a, e := r.Get(0); a != 9 || e != api.OK {
		t.Error("Get")
	}
	for _, i := range []int{-1, 3, math.MaxInt, math.MinInt} {
		a, e := r.Get(i)
		if a != 0 || e != api.ErrSlot || r.Set(i, -1) != api.ErrSlot || r.Copy(i, 0) != api.ErrSlot || r.Copy(0, i) != api.ErrSlot {
			t.Errorf("slot %d", i)
		}
	}
	if r.Set(0, -1) != api.ErrArg || r.Set(0, math.MinInt) != api.ErrArg || !slices.Equal(r.All(), []int{9, 9, 0}) {
		t.Error("a negative address")
	}
	if r.Set(2, math.MaxInt) != api.OK {
		t.Error("a great address")
	}
}

func TestAllIsNew(t *testing.T) {
	r := table(t, 2)
	l := r.All()
	l[0] = 5
	if a, _ := r.Get(0); a != 0 {
		t.Error("All shares memory")
	}
}

func TestTurn(t *testing.T) {
	r := table(t, 5)
	for i, a := range []int{4, 0, 6, 4, 8} {
		r.Set(i, a)
	}
	var seen []int
	r.Turn(func(a int) int {
		seen = append(seen, a)
		switch len(seen) {
		case 2:
			return -3
		case 3:
			return 0
		}
		return a * 10
	})
	if !slices.Equal(seen, []int{4, 6, 4, 8}) || !slices.Equal(r.All(), []int{40, 0, 0, 0, 80}) {
		t.Errorf("%d: %d", seen, r.All())
	}
}

func TestSlotsAreIndependent(t *testing.T) {
	rnd := rand.New(rand.NewSource(22))
	r, model := table(t, 6), make([]int, 6)
	for range 3000 {
		i, j, a := rnd.Intn(6), rnd.Intn(6), rnd.Intn(50)
		if rnd.Intn(2) == 0 {
			r.Set(i, a)
			model[i] = a
		} else {
			r.Copy(i, j)
			model[i] = model[j]
		}
		if !slices.Equal(r.All(), model) {
			t.Fatalf("%d, not %d", r.All(), model)
		}
	}
}

func TestNil(t *testing.T) {
	var r *roots.Table
	a, e := r.Get(0)
	if a != 0 || e != api.ErrNil || r.Set(0, -1) != api.ErrNil || r.Copy(0, 0) != api.ErrNil || r.Len() != 0 || len(r.All()) != 0 {
		t.Error("nil")
	}
	r.Turn(func(int) int { t.Error("Turn"); return 0 })
}
