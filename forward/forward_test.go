package forward_test

import (
	"math"
	"math/rand"
	"testing"

	"ullage/api"
	"ullage/extent"
	"ullage/forward"
)

func TestNew(t *testing.T) {
	m, _ := extent.New(10)
	if f, e := forward.New(nil, 0, -1); f != nil || e != api.ErrNil {
		t.Error("nil")
	}
	for _, c := range [][2]int{{0, 5}, {3, -1}, {2048, 5}, {math.MinInt, 0}, {4, -1}, {4, 1 << 31}, {4, math.MaxInt}, {4, math.MinInt}} {
		if f, e := forward.New(m, c[0], c[1]); f != nil || e != api.ErrArg {
			t.Errorf("blocks of %d, base %d: error %d", c[0], c[1], e)
		}
	}
	for _, base := range []int{0, 1<<31 - 1} {
		f, e := forward.New(m, 4, base)
		if e != api.OK || f.Base() != base || f.Top() != base || f.Words() != 0 {
			t.Errorf("base %d: error %d", base, e)
		}
	}
}

func TestExample(t *testing.T) {
	m, _ := extent.New(12)
	m.Add(3, 3)
	m.Add(9, 1)
	f, _ := forward.New(m, 4, 100)
	first, e1 := f.To(3)
	second, e2 := f.To(9)
	if first != 100 || second != 103 || f.Top() != 104 || e1 != api.OK || e2 != api.OK {
		t.Errorf("%d, %d, %d", first, second, f.Top())
	}
	m.Wipe()
	m.Add(0, 12)
	if a, e := f.From(103); a != 9 || e != api.OK || f.Words() != 4 {
		t.Error("a later change of the map has influence")
	}
	if start, size, e := f.Object(101); start != 3 || size != 3 || e != api.OK {
		t.Error("a later change of the map has influence on Object")
	}
}

func TestAgainstMap(t *testing.T) {
	r := rand.New(rand.NewSource(27))
	for _, n := range []int{1, 64, 300} {
		for block := 1; block <= api.MaxBlock; block *= 4 {
			m, _ := extent.New(n)
			for a := r.Intn(4); a < n; a += r.Intn(3) {
				size := 1 + r.Intn(9)
				m.Add(a, size)
				a += size
			}
			base := r.Intn(1000)
			f, e := forward.New(m, block, base)
			if e != api.OK || f.Base() != base || f.Words() != m.Live(0, n) || f.Top() != base+f.Words() {
				t.Fatalf("%d words: error %d", n, e)
			}
			next := base
			for a := -1; a <= n; a++ {
				b, e := f.To(a)
				start, size, live := m.Find(a)
				if !live {
					if b != 0 || e != api.ErrNone {
						t.Fatalf("To(%d) = %d, error %d", a, b, e)
					}
					continue
				}
				back, e2 := f.From(b)
				if b != next || back != a || e != api.OK || e2 != api.OK {
					t.Fatalf("To(%d) = %d, From(%d) = %d", a, b, b, back)
				}
				s, z, e3 := f.Object(b)
				if s != start || z != size || e3 != api.OK {
					t.Fatalf("Object(%d) = %d, %d", b, s, z)
				}
				next++
			}
			for _, b := range []int{base - 1, f.Top(), math.MaxInt, math.MinInt} {
				a, e := f.From(b)
				s, z, e2 := f.Object(b)
				if a != 0 || e != api.ErrRange || s != 0 || z != 0 || e2 != api.ErrRange {
					t.Fatalf("From(%d) = %d, error %d", b, a, e)
				}
			}
		}
	}
}

func TestNil(t *testing.T) {
	var f *forward.Map
	a, e1 := f.To(0)
	b, e2 := f.From(0)
	s, z, e3 := f.Object(0)
	if a+b+s+z != 0 || e1 != api.ErrNil || e2 != api.ErrNil || e3 != api.ErrNil || f.Base()+f.Top()+f.Words() != 0 {
		t.Error("nil")
	}
	m, _ := extent.New(4)
	f, _ = forward.New(m, 1, 0)
	for _, a := range []int{math.MaxInt, math.MinInt} {
		if b, e := f.To(a); b != 0 || e != api.ErrNone {
			t.Errorf("To(%d)", a)
		}
	}
}
