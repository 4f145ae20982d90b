package bump_test

import (
	"math"
	"math/rand"
	"testing"

	"ullage/api"
	"ullage/bump"
	"ullage/vmem"
)

func memory(t *testing.T, words, page, frames int) *vmem.Memory {
	t.Helper()
	m, e := vmem.New(words, page, frames)
	if e != api.OK {
		t.Fatal("memory")
	}
	return m
}

func TestNew(t *testing.T) {
	m := memory(t, 16, 4, 4)
	if r, e := bump.New(nil, -1, -2); r != nil || e != api.ErrNil {
		t.Error("nil")
	}
	for _, c := range [][2]int{{-1, 5}, {5, 4}, {0, 17}, {17, 17}, {math.MinInt, math.MaxInt}, {0, math.MinInt}} {
		if r, e := bump.New(m, c[0], c[1]); r != nil || e != api.ErrArg {
			t.Errorf("New from %d to %d: error %d", c[0], c[1], e)
		}
	}
	for _, c := range [][2]int{{0, 0}, {0, 16}, {16, 16}, {5, 8}} {
		r, e := bump.New(m, c[0], c[1])
		if e != api.OK || r.Base() != c[0] || r.Limit() != c[1] || r.Top() != c[0] || r.Left() != c[1]-c[0] {
			t.Errorf("New from %d to %d: error %d", c[0], c[1], e)
		}
	}
	if m.Used() != 0 {
		t.Error("pages are mapped")
	}
}

func TestAlloc(t *testing.T) {
	m := memory(t, 16, 4, 4)
	r, _ := bump.New(m, 5, 8)
	for _, c := range []struct {
		n, want int
		e       api.Errno
	}{{0, 0, api.ErrSize}, {-1, 0, api.ErrSize}, {math.MinInt, 0, api.ErrSize}, {math.MaxInt, 0, api.ErrMemory}, {2, 5, api.OK}, {2, 0, api.ErrMemory}, {1, 7, api.OK}, {1, 0, api.ErrMemory}, {0, 0, api.ErrSize}} {
		if a, e := r.Alloc(c.n); a != c.want || e != c.e {
			t.Errorf("Alloc(%d): %d, error %d", c.n, a, e)
		}
	}
	if r.Left() != 0 || r.Top() != 8 || m.Used() != 1 {
		t.Error("a full region")
	}
}

func TestFewFrames(t *testing.T) {
	m := memory(t, 16, 4, 2)
	r, _ := bump.New(m, 2, 16)
	if a, e := r.Alloc(7); a != 0 || e != api.ErrFrames || r.Top() != 2 || m.Used() != 0 {
		t.Errorf("Alloc: %d, error %d", a, e)
	}
	if a, e := r.Alloc(6); a != 2 || e != api.OK || m.Used() != 2 || !m.Mapped(0) || !m.Mapped(1) {
		t.Errorf("Alloc: %d, error %d", a, e)
	}
}

func TestSetAndRelease(t *testing.T) {
	m := memory(t, 32, 4, 8)
	m.Map(7)
	r, _ := bump.New(m, 6, 26)
	r.Alloc(20)
	for _, top := range []int{5, 27, math.MaxInt, math.MinInt} {
		if r.Set(top) != api.ErrArg || r.Top() != 26 {
			t.Errorf("Set(%d)", top)
		}
	}
	for _, top := range []int{6, 26, 10} {
		if r.Set(top) != api.OK || r.Top() != top || r.Left() != 26-top || m.Used() != 7 {
			t.Errorf("Set(%d)", top)
		}
	}
	if n := r.Release(); n != 4 || r.Top() != 6 || m.Used() != 3 || !m.Mapped(1) || !m.Mapped(6) || !m.Mapped(7) {
		t.Errorf("Release: %d", n)
	}
	if n := r.Release(); n != 0 {
		t.Errorf("Release again: %d", n)
	}
}

func TestPiecesAreAdjacent(t *testing.T) {
	rnd := rand.New(rand.NewSource(21))
	for range 300 {
		m := memory(t, 64, 4, 1+rnd.Intn(20))
		base := rnd.Intn(65)
		limit := base + rnd.Intn(65-base)
		r, _ := bump.New(m, base, limit)
		top := base
		for range 20 {
			n := rnd.Intn(12) - 1
			used := m.Used()
			a, e := r.Alloc(n)
			switch {
			case e == api.OK:
				if a != top || n < 1 || a+n > limit {
					t.Fatalf("Alloc(%d) = %d", n, a)
				}
				top += n
				for i := a; i < top; i++ {
					if m.Store(i, 1) != api.OK {
						t.Fatalf("address %d is not mapped", i)
					}
				}
			case a != 0 || m.Used() != used:
				t.Fatalf("a failed Alloc: %d", a)
			}
			if r.Top() != top || r.Left() != limit-top {
				t.Fatalf("top %d", r.Top())
			}
		}
	}
}

func TestNil(t *testing.T) {
	var r *bump.Region
	a, e := r.Alloc(0)
	if a != 0 || e != api.ErrNil || r.Set(0) != api.ErrNil || r.Base()+r.Limit()+r.Top()+r.Left()+r.Release() != 0 {
		t.Error("nil")
	}
}
