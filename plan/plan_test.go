package plan_test

import (
	"math"
	"math/rand"
	"slices"
	"testing"

	"ullage/api"
	"ullage/extent"
	"ullage/plan"
)

func TestNew(t *testing.T) {
	m, _ := extent.New(10)
	if p, e := plan.New(nil, 0, -1); p != nil || e != api.ErrNil {
		t.Error("nil")
	}
	for _, c := range [][2]int{{0, 5}, {3, 5}, {2048, 5}, {4, -1}, {4, 1 << 31}} {
		if p, e := plan.New(m, c[0], c[1]); p != nil || e != api.ErrArg {
			t.Errorf("blocks of %d, base %d: error %d", c[0], c[1], e)
		}
	}
	p, e := plan.New(m, 4, 7)
	if e != api.OK || p.Blocks() != 0 {
		t.Error("nothing to move")
	}
	if _, e := p.Pieces(0); e != api.ErrRange {
		t.Error("a block of nothing")
	}
}

func TestExample(t *testing.T) {
	m, _ := extent.New(12)
	m.Add(3, 3)
	m.Add(9, 1)
	p, _ := plan.New(m, 2, 100)
	m.Wipe()
	first, _ := p.Pieces(0)
	second, _ := p.Pieces(1)
	if !slices.Equal(first, []plan.Piece{{3, 100, 2}}) || !slices.Equal(second, []plan.Piece{{5, 102, 1}, {9, 103, 1}}) || p.Blocks() != 2 {
		t.Errorf("%v, %v", first, second)
	}
	first[0].From = 77
	if again, _ := p.Pieces(0); again[0].From != 3 {
		t.Error("Pieces share memory")
	}
}

func TestAdjacentObjectsAreOnePiece(t *testing.T) {
	m, _ := extent.New(40)
	m.Add(3, 3)
	m.Add(6, 5)
	m.Add(12, 2)
	m.Add(14, 2)
	p, _ := plan.New(m, 16, 8)
	l, _ := p.Pieces(0)
	if !slices.Equal(l, []plan.Piece{{3, 8, 8}, {12, 16, 4}}) {
		t.Errorf("%v", l)
	}
}

func TestAgainstMap(t *testing.T) {
	r := rand.New(rand.NewSource(28))
	for _, n := range []int{1, 64, 300} {
		for block := 1; block <= api.MaxBlock; block *= 2 {
			m, _ := extent.New(n)
			for a := r.Intn(4); a < n; a += r.Intn(3) {
				size := 1 + r.Intn(9)
				m.Add(a, size)
				a += size
			}
			base := r.Intn(100)
			p, e := plan.New(m, block, base)
			live := m.Live(0, n)
			if e != api.OK || p.Blocks() != (live+block-1)/block || p.Forward().Words() != live || p.Forward().Base() != base {
				t.Fatalf("%d words: error %d", n, e)
			}
			next := 0
			for k := range p.Blocks() {
				from, to, e := p.Range(k)
				if e != api.OK || from != base+k*block || to != min(from+block, base+live) {
					t.Fatalf("Range(%d) = %d, %d", k, from, to)
				}
				l, e := p.Pieces(k)
				if e != api.OK {
					t.Fatal(e)
				}
				end := -1
				for _, x := range l {
					if x.Size < 1 || x.From == end || x.To < from || x.To+x.Size > to {
						t.Fatalf("block %d: %v", k, l)
					}
					for i := range x.Size {
						if a, ok := m.Word(next); !ok || x.From+i != a || x.To+i != base+next {
							t.Fatalf("block %d: %v", k, l)
						}
						if b, e := p.Block(x.To + i); b != k || e != api.OK {
							t.Fatalf("Block(%d) = %d", x.To+i, b)
						}
						next++
					}
					end = x.From + x.Size
				}
			}
			if next != live {
				t.Fatalf("%d words of %d", next, live)
			}
			for _, k := range []int{-1, p.Blocks(), math.MaxInt, math.MinInt} {
				from, to, e1 := p.Range(k)
				l, e2 := p.Pieces(k)
				if from+to != 0 || e1 != api.ErrRange || l != nil || e2 != api.ErrRange {
					t.Fatalf("block %d", k)
				}
			}
			for _, b := range []int{base - 1, base + live, math.MaxInt, math.MinInt} {
				if k, e := p.Block(b); k != 0 || e != api.ErrRange {
					t.Fatalf("Block(%d)", b)
				}
			}
		}
	}
}

func TestNil(t *testing.T) {
	var p *plan.Plan
	k, e1 := p.Block(0)
	from, to, e2 := p.Range(0)
	l, e3 := p.Pieces(0)
	if k+from+to+len(l)+p.Blocks() != 0 || e1 != api.ErrNil || e2 != api.ErrNil || e3 != api.ErrNil || p.Forward() != nil {
		t.Error("nil")
	}
}
