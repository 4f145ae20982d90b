package frames_test

import (
	"math"
	"math/rand"
	"testing"

	"ullage/api"
	"ullage/frames"
)

func pool(t *testing.T, n, page int) *frames.Pool {
	t.Helper()
	p, e := frames.New(n, page)
	if e != api.OK || p == nil {
		t.Fatalf("New(%d, %d): error %d", n, page, e)
	}
	return p
}

func TestNew(t *testing.T) {
	for _, c := range [][2]int{{0, 4}, {-1, 4}, {4097, 4}, {4, 0}, {4, -4}, {4, 3}, {4, 512}, {math.MaxInt, 4}, {4, math.MaxInt}, {4, math.MinInt}} {
		if p, e := frames.New(c[0], c[1]); p != nil || e != api.ErrArg {
			t.Errorf("New(%d, %d): error %d", c[0], c[1], e)
		}
	}
	for _, c := range [][2]int{{1, 1}, {4096, 256}, {2, 64}} {
		p := pool(t, c[0], c[1])
		if p.Room() != c[0] || p.Page() != c[1] || p.Used() != 0 || p.High() != 0 || p.Taken() != 0 {
			t.Errorf("a new pool of %d frames", c[0])
		}
	}
}

func TestTakeAndGive(t *testing.T) {
	p := pool(t, 2, 4)
	take := func(want int, wantErr api.Errno) {
		t.Helper()
		if f, e := p.Take(); f != want || e != wantErr {
			t.Errorf("Take: %d, error %d", f, e)
		}
	}
	take(0, api.OK)
	take(1, api.OK)
	take(0, api.ErrFrames)
	if p.Give(0) != api.OK || p.Give(0) != api.ErrNone || p.Give(2) != api.ErrNone || p.Give(-1) != api.ErrNone {
		t.Error("Give")
	}
	take(0, api.OK)
	p.Give(0)
	p.Give(1)
	if p.Used() != 0 || p.High() != 2 || p.Taken() != 3 {
		t.Errorf("used %d, high %d, taken %d", p.Used(), p.High(), p.Taken())
	}
	take(1, api.OK)
	take(0, api.OK)
}

func TestWordsOfFrames(t *testing.T) {
	p := pool(t, 3, 4)
	for _, f := range []int{-1, 0, 3, math.MaxInt, math.MinInt} {
		if _, e := p.Load(f, 9); e != api.ErrNone {
			t.Errorf("Load of frame %d: error %d", f, e)
		}
		if e := p.Store(f, 9, 1); e != api.ErrNone {
			t.Errorf("Store into frame %d: error %d", f, e)
		}
	}
	f, _ := p.Take()
	for _, at := range []int{-1, 4, math.MaxInt, math.MinInt} {
		if w, e := p.Load(f, at); w != 0 || e != api.ErrRange {
			t.Errorf("Load at %d: error %d", at, e)
		}
		if e := p.Store(f, at, 1); e != api.ErrRange {
			t.Errorf("Store at %d: error %d", at, e)
		}
	}
	if p.Store(f, 3, 7) != api.OK {
		t.Error("Store")
	}
	if w, e := p.Load(f, 3); w != 7 || e != api.OK {
		t.Error("Load")
	}
}

// TestAgainstModel compares a pool with its description, frame by frame.
func TestAgainstModel(t *testing.T) {
	r := rand.New(rand.NewSource(12))
	p := pool(t, 7, 2)
	held := map[int][2]uint64{}
	var free []int
	fresh, high, taken := 0, 0, 0
	for range 20000 {
		f, at, w := r.Intn(9)-1, r.Intn(2), r.Uint64()
		words, ok := held[f]
		switch r.Intn(4) {
		case 0:
			want, wantErr := fresh, api.OK
			switch {
			case len(free) > 0:
				want, free = free[len(free)-1], free[:len(free)-1]
			case fresh == 7:
				want, wantErr = 0, api.ErrFrames
			default:
				fresh++
			}
			got, e := p.Take()
			if got != want || e != wantErr {
				t.Fatalf("Take: %d, error %d", got, e)
			}
			if e == api.OK {
				held[got] = [2]uint64{}
				taken++
				high = max(high, len(held))
			}
		case 1:
			e := p.Give(f)
			if (e == api.OK) != ok || !ok && e != api.ErrNone {
				t.Fatalf("Give(%d): error %d", f, e)
			}
			if ok {
				delete(held, f)
				free = append(free, f)
			}
		case 2:
			if e := p.Store(f, at, w); (e == api.OK) != ok {
				t.Fatalf("Store(%d): error %d", f, e)
			}
			if ok {
				words[at] = w
				held[f] = words
			}
		}
		for f, words := range held {
			for at := range words {
				if w, e := p.Load(f, at); w != words[at] || e != api.OK {
					t.Fatalf("frame %d at %d: %x, error %d", f, at, w, e)
				}
			}
		}
		if p.Used() != len(held) || p.High() != high || p.Taken() != taken {
			t.Fatalf("used %d, high %d, taken %d", p.Used(), p.High(), p.Taken())
		}
	}
}

func TestNil(t *testing.T) {
	var p *frames.Pool
	f, e1 := p.Take()
	w, e2 := p.Load(0, 0)
	if f != 0 || w != 0 || e1 != api.ErrNil || e2 != api.ErrNil || p.Store(0, 0, 1) != api.ErrNil || p.Give(0) != api.ErrNil {
		t.Error("errors")
	}
	if p.Page()+p.Room()+p.Used()+p.High()+p.Taken() != 0 {
		t.Error("numbers")
	}
}
