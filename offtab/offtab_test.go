package offtab_test

import (
	"math"
	"math/rand"
	"testing"

	"ullage/api"
	"ullage/extent"
	"ullage/offtab"
)

func TestNew(t *testing.T) {
	m, _ := extent.New(10)
	if x, e := offtab.New(nil, 0); x != nil || e != api.ErrNil {
		t.Error("nil")
	}
	for _, block := range []int{0, -1, 3, 2048, math.MaxInt, math.MinInt} {
		if x, e := offtab.New(m, block); x != nil || e != api.ErrArg {
			t.Errorf("blocks of %d: error %d", block, e)
		}
	}
}

func TestExample(t *testing.T) {
	m, _ := extent.New(20)
	m.Add(3, 7)
	x, e := offtab.New(m, 4)
	if e != api.OK {
		t.Fatal(e)
	}
	one, _ := x.Ahead(1)
	two, _ := x.Ahead(2)
	if one != 1 || two != 5 || x.Before(9) != 6 {
		t.Errorf("%d, %d, %d", one, two, x.Before(9))
	}
	m.Wipe()
	m.Add(0, 1)
	if x.Live() != 7 || x.Is(0) || !x.Is(9) || x.Before(3) != 0 {
		t.Error("a later change of the map has influence")
	}
}

func TestAgainstMap(t *testing.T) {
	r := rand.New(rand.NewSource(26))
	for _, n := range []int{1, 64, 65, 300} {
		for block := 1; block <= api.MaxBlock; block *= 4 {
			m, _ := extent.New(n)
			for a := r.Intn(4); a < n; a += r.Intn(4) {
				size := 1 + r.Intn(9)
				m.Add(a, size)
				a += size
			}
			x, e := offtab.New(m, block)
			if e != api.OK || x.Live() != m.Live(0, n) || x.Blocks() != (n+block-1)/block {
				t.Fatalf("%d words in blocks of %d: error %d", n, block, e)
			}
			for b := -1; b <= x.Blocks(); b++ {
				got, e := x.Ahead(b)
				if exists := b >= 0 && b < x.Blocks(); exists && (e != api.OK || got != m.Live(0, b*block) || got != x.Before(b*block)) || !exists && (e != api.ErrRange || got != 0) {
					t.Fatalf("Ahead(%d) = %d, error %d", b, got, e)
				}
			}
			for a := -2; a < n+2; a++ {
				if got := x.Before(a); got != m.Live(0, a) {
					t.Fatalf("Before(%d) = %d", a, got)
				}
				start, _, live := m.Find(a)
				if x.Is(a) != live || live && x.Before(a) != x.Before(start)+a-start {
					t.Fatalf("word %d", a)
				}
			}
			for k := -1; k <= x.Live(); k++ {
				got, ok := x.Word(k)
				want, wantOK := m.Word(k)
				if got != want || ok != wantOK {
					t.Fatalf("Word(%d) = %d", k, got)
				}
			}
		}
	}
}

func TestNil(t *testing.T) {
	var x *offtab.Table
	n, e := x.Ahead(0)
	w, ok := x.Word(0)
	if n != 0 || e != api.ErrNil || w != 0 || ok || x.Is(0) || x.Before(9)+x.Blocks()+x.Live() != 0 {
		t.Error("nil")
	}
}
