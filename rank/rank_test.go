package rank_test

import (
	"math"
	"math/rand"
	"testing"

	"ullage/api"
	"ullage/bitvec"
	"ullage/rank"
)

func TestNew(t *testing.T) {
	v, _ := bitvec.New(100)
	if x, e := rank.New(nil, 0); x != nil || e != api.ErrNil {
		t.Error("nil")
	}
	for _, block := range []int{0, -1, -32, 3, 48, 2048, math.MaxInt, math.MinInt} {
		if x, e := rank.New(v, block); x != nil || e != api.ErrArg {
			t.Errorf("blocks of %d: error %d", block, e)
		}
	}
}

func TestExample(t *testing.T) {
	v, _ := bitvec.New(100)
	v.Set(1)
	v.Fill(64, 66)
	x, e := rank.New(v, 32)
	if e != api.OK {
		t.Fatal(e)
	}
	ahead, e := x.Ahead(2)
	pick, ok := x.Pick(2)
	if ahead != 1 || e != api.OK || x.Before(65) != 2 || pick != 65 || !ok || x.Blocks() != 4 || x.Ones() != 3 {
		t.Errorf("Ahead %d, Before %d, Pick %d", ahead, x.Before(65), pick)
	}
	v.Fill(0, 100)
	if x.Ones() != 3 || x.Before(50) != 1 {
		t.Error("a later change of the vector has influence")
	}
}

func TestAgainstVector(t *testing.T) {
	r := rand.New(rand.NewSource(17))
	for _, n := range []int{1, 63, 64, 65, 200, 1024, 3000} {
		for block := 1; block <= api.MaxBlock; block *= 2 {
			v, _ := bitvec.New(n)
			dense := r.Intn(4)
			for i := range n {
				if r.Intn(4) < dense {
					v.Set(i)
				}
			}
			x, e := rank.New(v, block)
			if e != api.OK {
				t.Fatal(e)
			}
			blocks := (n + block - 1) / block
			if x.Blocks() != blocks || x.Ones() != v.Count(0, n) {
				t.Fatalf("%d bits in blocks of %d: %d blocks, %d ones", n, block, x.Blocks(), x.Ones())
			}
			for b := -1; b <= blocks; b++ {
				got, e := x.Ahead(b)
				if exists := b >= 0 && b < blocks; exists && (e != api.OK || got != v.Count(0, b*block)) || !exists && (e != api.ErrRange || got != 0) {
					t.Fatalf("Ahead(%d) = %d, error %d", b, got, e)
				}
			}
			for i := -2; i < n+3; i++ {
				if got := x.Before(i); got != v.Count(0, i) {
					t.Fatalf("Before(%d) = %d, not %d", i, got, v.Count(0, i))
				}
			}
			last := -1
			for k := -1; k <= x.Ones(); k++ {
				got, ok := x.Pick(k)
				want, wantOK := v.Pick(k)
				if got != want || ok != wantOK {
					t.Fatalf("Pick(%d) = %d, not %d", k, got, want)
				}
				if ok && (x.Before(got) != k || got <= last) {
					t.Fatalf("Before(Pick(%d)) = %d", k, x.Before(got))
				}
				if ok {
					last = got
				}
			}
		}
	}
}

func TestFarAway(t *testing.T) {
	v, _ := bitvec.New(10)
	v.Set(9)
	x, _ := rank.New(v, 4)
	if x.Before(math.MinInt) != 0 || x.Before(math.MaxInt) != 1 {
		t.Error("Before")
	}
	for _, i := range []int{math.MinInt, math.MaxInt} {
		_, e := x.Ahead(i)
		if n, ok := x.Pick(i); n != 0 || ok || e != api.ErrRange {
			t.Errorf("%d", i)
		}
	}
}

func TestNil(t *testing.T) {
	var x *rank.Index
	n, e := x.Ahead(0)
	i, ok := x.Pick(0)
	if n != 0 || e != api.ErrNil || i != 0 || ok || x.Before(5) != 0 || x.Blocks() != 0 || x.Ones() != 0 {
		t.Error("nil")
	}
}
