package pages_test

import (
	"math"
	"math/rand"
	"testing"

	"ullage/api"
	"ullage/pages"
)

func table(t *testing.T, n int) *pages.Map {
	t.Helper()
	m, e := pages.New(n)
	if e != api.OK || m == nil {
		t.Fatalf("New(%d): error %d", n, e)
	}
	return m
}

func TestNew(t *testing.T) {
	if pages.MaxPages != 524288 {
		t.Error("MaxPages")
	}
	for _, n := range []int{0, -1, pages.MaxPages + 1, math.MaxInt, math.MinInt} {
		if m, e := pages.New(n); m != nil || e != api.ErrArg {
			t.Errorf("New(%d): error %d", n, e)
		}
	}
	for _, n := range []int{1, 511, 512, 513, pages.MaxPages} {
		m := table(t, n)
		if m.Put(n-1, 5) != api.OK || m.Put(n, 5) != api.ErrRange || m.Len() != 1 {
			t.Errorf("the last page of %d", n)
		}
		if p, ok := m.Next(0); p != n-1 || !ok {
			t.Errorf("Next among %d pages: %d", n, p)
		}
	}
}

func TestErrors(t *testing.T) {
	m := table(t, 8)
	if m.Put(3, 7) != api.OK || m.Move(3, 5) != api.OK {
		t.Error("the example: Put, Move")
	}
	if f, e := m.Frame(5); f != 7 || e != api.OK {
		t.Error("the example: page 5")
	}
	if f, e := m.Frame(3); f != 0 || e != api.ErrUnmapped {
		t.Error("the example: page 3")
	}
	for _, p := range []int{-1, 8, math.MaxInt, math.MinInt} {
		f1, e1 := m.Drop(p)
		f2, e2 := m.Frame(p)
		if f1 != 0 || f2 != 0 || m.Put(p, -1) != api.ErrRange || e1 != api.ErrRange || e2 != api.ErrRange || m.Move(p, 5) != api.ErrRange || m.Move(5, p) != api.ErrRange || m.Move(0, p) != api.ErrRange {
			t.Errorf("page %d", p)
		}
	}
	for _, f := range []int{-1, 1 << 31, math.MaxInt, math.MinInt} {
		if m.Put(0, f) != api.ErrArg || m.Put(5, f) != api.ErrArg {
			t.Errorf("frame %d", f)
		}
	}
	if m.Put(5, 1) != api.ErrMapped || m.Move(5, 5) != api.ErrMapped || m.Move(0, 5) != api.ErrUnmapped || m.Move(0, 0) != api.ErrUnmapped {
		t.Error("mapped pages")
	}
	if f, e := m.Drop(0); f != 0 || e != api.ErrUnmapped {
		t.Error("Drop of a page that is not mapped")
	}
	if m.Put(0, 1<<31-1) != api.OK || m.Put(1, 0) != api.OK {
		t.Error("the greatest and the least frame")
	}
	if f, _ := m.Frame(0); f != 1<<31-1 {
		t.Error("the greatest frame")
	}
	if f, e := m.Frame(1); f != 0 || e != api.OK {
		t.Error("the least frame")
	}
}

func TestAgainstModel(t *testing.T) {
	r := rand.New(rand.NewSource(13))
	const n = 1500
	m := table(t, n)
	model := map[int]int{}
	for step := range 30000 {
		p, q, f := r.Intn(n), r.Intn(n), r.Intn(1000)
		if r.Intn(2) == 0 {
			p, q = p%40, q%40+500
		}
		_, hasP := model[p]
		_, hasQ := model[q]
		switch r.Intn(4) {
		case 0, 1:
			if e := m.Put(p, f); (e == api.OK) == hasP {
				t.Fatalf("Put(%d): error %d", p, e)
			}
			if !hasP {
				model[p] = f
			}
		case 2:
			got, e := m.Drop(p)
			if (e == api.OK) != hasP || hasP && got != model[p] {
				t.Fatalf("Drop(%d): %d, error %d", p, got, e)
			}
			delete(model, p)
		case 3:
			e := m.Move(p, q)
			if (e == api.OK) != (hasP && !hasQ) {
				t.Fatalf("Move(%d, %d): error %d", p, q, e)
			}
			if e == api.OK {
				model[q] = model[p]
				delete(model, p)
			}
		}
		if m.Len() != len(model) {
			t.Fatalf("Len %d", m.Len())
		}
		if step%50 != 0 {
			continue
		}
		next, count := -1, 0
		for i := n - 1; i >= 0; i-- {
			f, ok := model[i]
			if got, e := m.Frame(i); (e == api.OK) != ok || got != f {
				t.Fatalf("Frame(%d): %d, error %d", i, got, e)
			}
			if ok {
				next = i
			}
			if ok && i >= p && i < q {
				count++
			}
			if got, ok := m.Next(i); ok != (next >= 0) || ok && got != next {
				t.Fatalf("Next(%d): %d", i, got)
			}
		}
		if got := m.Count(p, q); got != count {
			t.Fatalf("Count(%d, %d): %d, not %d", p, q, got, count)
		}
		if m.Count(math.MinInt, math.MaxInt) != len(model) || m.Count(-5, p)+m.Count(p, n+3) != len(model) || m.Count(9, 2) != 0 {
			t.Fatal("counts")
		}
		if got, ok := m.Next(math.MinInt); ok != (next >= 0) || ok && got != next {
			t.Fatalf("Next from below: %d", got)
		}
	}
	for _, p := range []int{n, math.MaxInt} {
		if got, ok := m.Next(p); got != 0 || ok {
			t.Errorf("Next(%d): %d", p, got)
		}
	}
}

func TestNil(t *testing.T) {
	var m *pages.Map
	f1, e1 := m.Drop(0)
	f2, e2 := m.Frame(0)
	if f1 != 0 || f2 != 0 || m.Put(0, 0) != api.ErrNil || e1 != api.ErrNil || e2 != api.ErrNil || m.Move(0, 1) != api.ErrNil {
		t.Error("errors")
	}
	if p, ok := m.Next(0); p != 0 || ok || m.Count(0, 9) != 0 || m.Len() != 0 {
		t.Error("numbers")
	}
}
