package vmem_test

import (
	"math"
	"math/rand"
	"testing"

	"ullage/api"
	"ullage/vmem"
)

func memory(t *testing.T, words, page, frames int) *vmem.Memory {
	t.Helper()
	m, e := vmem.New(words, page, frames)
	if e != api.OK || m == nil {
		t.Fatalf("New(%d, %d, %d): error %d", words, page, frames, e)
	}
	return m
}

func TestNew(t *testing.T) {
	for _, c := range [][3]int{{16, 4, 0}, {16, 3, 2}, {16, 512, 2}, {0, 4, 2}, {-4, 4, 2}, {18, 4, 2}, {524288 + 4, 4, 2}, {2, 4, 2}, {math.MaxInt, 4, 2}, {math.MinInt, 4, 2}, {16, 0, 2}, {16, 4, 4097}} {
		if m, e := vmem.New(c[0], c[1], c[2]); m != nil || e != api.ErrArg {
			t.Errorf("New(%d, %d, %d): error %d", c[0], c[1], c[2], e)
		}
	}
	for _, c := range [][3]int{{1, 1, 1}, {524288, 1, 3}, {524288, 256, 4096}, {16, 16, 1}} {
		m := memory(t, c[0], c[1], c[2])
		if m.Words() != c[0] || m.Page() != c[1] || m.Room() != c[2] || m.Used() != 0 || m.High() != 0 {
			t.Errorf("a new memory of %d words", c[0])
		}
		last := c[0] - 1
		if m.Need(last, last+1) != api.OK || m.Store(last, 9) != api.OK || m.Store(last+1, 9) != api.ErrRange {
			t.Errorf("the last of %d words", c[0])
		}
	}
}

func TestNeed(t *testing.T) {
	m := memory(t, 16, 4, 2)
	if m.Need(3, 9) != api.ErrFrames || m.Used() != 0 || m.High() != 2 || m.Mapped(0) || m.Mapped(1) || m.Mapped(2) {
		t.Error("the example: too few frames")
	}
	if m.Need(3, 8) != api.OK || !m.Mapped(0) || !m.Mapped(1) || m.Used() != 2 {
		t.Error("the example: two pages")
	}
	if m.Need(0, 8) != api.OK || m.Need(0, 9) != api.ErrFrames || m.Used() != 2 || !m.Mapped(0) || !m.Mapped(1) {
		t.Error("pages that were mapped before are unmapped")
	}
	for _, c := range [][2]int{{-1, 4}, {0, 17}, {-1, -1}, {math.MinInt, 0}, {0, math.MaxInt}, {20, 17}, {-5, -9}} {
		if e := m.Need(c[0], c[1]); e != api.ErrRange {
			t.Errorf("Need(%d, %d): error %d", c[0], c[1], e)
		}
	}
	for _, c := range [][2]int{{12, 12}, {16, 16}, {15, 3}, {20, 16}, {math.MaxInt, 0}, {0, -7}} {
		if e := m.Need(c[0], c[1]); e != api.OK || m.Used() != 2 {
			t.Errorf("Need(%d, %d): error %d", c[0], c[1], e)
		}
	}
}

func TestFree(t *testing.T) {
	for _, c := range []struct{ from, to, n int }{
		{0, 16, 4}, {1, 16, 3}, {0, 15, 3}, {4, 8, 1}, {4, 7, 0}, {5, 12, 1}, {-7, 4, 1}, {-7, 3, 0}, {12, 99, 1}, {13, 99, 0},
		{math.MinInt, math.MaxInt, 4}, {8, 8, 0}, {12, 4, 0}, {math.MaxInt, math.MinInt, 0}, {16, 99, 0},
	} {
		m := memory(t, 16, 4, 4)
		m.Need(0, 16)
		if n := m.Free(c.from, c.to); n != c.n || m.Used() != 4-c.n {
			t.Errorf("Free(%d, %d) = %d, %d used", c.from, c.to, n, m.Used())
		}
		for p := range 4 {
			gone := p*4 >= c.from && p*4+4 <= c.to
			if m.Mapped(p) == gone {
				t.Errorf("Free(%d, %d): page %d", c.from, c.to, p)
			}
		}
	}
}

func TestErrors(t *testing.T) {
	m := memory(t, 16, 4, 2)
	for _, p := range []int{-1, 4, math.MaxInt, math.MinInt} {
		if m.Map(p) != api.ErrRange || m.Unmap(p) != api.ErrRange || m.Move(p, 0) != api.ErrRange || m.Move(0, p) != api.ErrRange || m.Mapped(p) {
			t.Errorf("page %d", p)
		}
	}
	for _, a := range []int{-1, 16, math.MaxInt, math.MinInt} {
		if w, e := m.Load(a); w != 0 || e != api.ErrRange {
			t.Errorf("Load(%d): error %d", a, e)
		}
		if e := m.Store(a, 1); e != api.ErrRange {
			t.Errorf("Store(%d): error %d", a, e)
		}
	}
	if w, e := m.Load(3); w != 0 || e != api.ErrUnmapped || m.Store(3, 1) != api.ErrUnmapped || m.Unmap(0) != api.ErrUnmapped || m.Move(0, 1) != api.ErrUnmapped {
		t.Error("a page that is not mapped")
	}
	if m.Map(0) != api.OK || m.Map(0) != api.ErrMapped || m.Map(1) != api.OK || m.Map(1) != api.ErrMapped || m.Map(2) != api.ErrFrames || m.Map(4) != api.ErrRange {
		t.Error("Map")
	}
	if m.Move(0, 1) != api.ErrMapped || m.Move(0, 0) != api.ErrMapped || m.Store(1, 5) != api.OK || m.Move(0, 3) != api.OK {
		t.Error("Move")
	}
	if w, e := m.Load(13); w != 5 || e != api.OK {
		t.Error("a word that was moved")
	}
	if m.Unmap(3) != api.OK || m.Map(3) != api.OK {
		t.Error("Unmap and Map")
	}
	if w, e := m.Load(13); w != 0 || e != api.OK {
		t.Error("a page that is mapped again does not contain zeros")
	}
}

// TestAgainstModel compares a memory with a map from pages to words.
func TestAgainstModel(t *testing.T) {
	r := rand.New(rand.NewSource(14))
	const words, page, room = 64, 4, 9
	m := memory(t, words, page, room)
	model := map[int]*[page]uint64{}
	high := 0
	for range 30000 {
		a, b, p, q := r.Intn(words), r.Intn(words+1), r.Intn(words/page), r.Intn(words/page)
		switch r.Intn(7) {
		case 0:
			e := m.Map(p)
			if want := model[p] == nil && len(model) < room; (e == api.OK) != want {
				t.Fatalf("Map(%d): error %d", p, e)
			}
			if e == api.OK {
				model[p] = new([page]uint64)
			}
		case 1:
			if e := m.Unmap(p); (e == api.OK) != (model[p] != nil) {
				t.Fatalf("Unmap(%d): error %d", p, e)
			}
			delete(model, p)
		case 2:
			e := m.Move(p, q)
			if (e == api.OK) != (model[p] != nil && model[q] == nil) {
				t.Fatalf("Move(%d, %d): error %d", p, q, e)
			}
			if e == api.OK {
				model[q] = model[p]
				delete(model, p)
			}
		case 3:
			var missing []int
			for p := a / page; p*page < b; p++ {
				if model[p] == nil && a < b {
					missing = append(missing, p)
				}
			}
			high = max(high, min(len(model)+len(missing), room))
			e := m.Need(a, b)
			if want := len(model)+len(missing) <= room; (e == api.OK) != want {
				t.Fatalf("Need(%d, %d): error %d", a, b, e)
			}
			if e == api.OK {
				for _, p := range missing {
					model[p] = new([page]uint64)
				}
			}
		case 4:
			n := 0
			for p := range words / page {
				if p*page >= a && p*page+page <= b && model[p] != nil {
					delete(model, p)
					n++
				}
			}
			if got := m.Free(a, b); got != n {
				t.Fatalf("Free(%d, %d) = %d, not %d", a, b, got, n)
			}
		default:
			w := r.Uint64()
			if e := m.Store(a, w); (e == api.OK) != (model[a/page] != nil) {
				t.Fatalf("Store(%d): error %d", a, e)
			}
			if model[a/page] != nil {
				model[a/page][a%page] = w
			}
		}
		high = max(high, len(model))
		if m.Used() != len(model) || m.High() != high {
			t.Fatalf("used %d of %d, high %d of %d", m.Used(), len(model), m.High(), high)
		}
		for a := range words {
			w, e := m.Load(a)
			if in := model[a/page]; in == nil && e != api.ErrUnmapped || in != nil && (e != api.OK || w != in[a%page]) {
				t.Fatalf("Load(%d): %x, error %d", a, w, e)
			}
			if m.Mapped(a/page) != (model[a/page] != nil) {
				t.Fatalf("Mapped(%d)", a/page)
			}
		}
	}
}

func TestNil(t *testing.T) {
	var m *vmem.Memory
	w, e := m.Load(0)
	if w != 0 || e != api.ErrNil || m.Store(0, 1) != api.ErrNil || m.Map(0) != api.ErrNil || m.Unmap(0) != api.ErrNil || m.Move(0, 1) != api.ErrNil || m.Need(0, 1) != api.ErrNil || m.Need(1, 0) != api.ErrNil {
		t.Error("errors")
	}
	if m.Free(0, 9)+m.Page()+m.Words()+m.Used()+m.High()+m.Room() != 0 || m.Mapped(0) {
		t.Error("numbers")
	}
}
