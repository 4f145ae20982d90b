package table_test

import (
	"math"
	"math/rand"
	"slices"
	"testing"

	"ullage/api"
	"ullage/exact"
	"ullage/float"
	"ullage/heap"
	"ullage/table"
)

func newHeap(t *testing.T, kind, words int) *heap.Heap {
	t.Helper()
	h, e := heap.New(api.Config{Kind: kind, Page: 4, Block: 8, Words: words, Slots: 5, Stack: 2, Ahead: 1, Trigger: 0.7})
	if e != api.OK {
		t.Fatal(e)
	}
	return h
}

func newTable(t *testing.T, h *heap.Heap) *table.Table {
	t.Helper()
	x, e := table.New(h, 1, [2]int{3, 0})
	if e != api.OK || x == nil || x.Len() != 0 || float.Bits(x.Sum()) != 0 {
		t.Fatalf("New: error %d", e)
	}
	return x
}

func TestNew(t *testing.T) {
	h := newHeap(t, api.Sliding, 64)
	for i := range 5 {
		h.Alloc(i, api.Header{Words: i})
	}
	before := h.Graph()
	if x, e := table.New(nil, 9, [2]int{9, 9}); x != nil || e != api.ErrNil {
		t.Error("no heap")
	}
	for _, c := range []struct {
		root int
		work [2]int
		want api.Errno
	}{{5, [2]int{0, 0}, api.ErrSlot}, {0, [2]int{0, -1}, api.ErrSlot}, {0, [2]int{math.MaxInt, 0}, api.ErrSlot}, {0, [2]int{1, 0}, api.ErrArg}, {0, [2]int{1, 1}, api.ErrArg}} {
		if x, e := table.New(h, c.root, c.work); x != nil || e != c.want || !slices.Equal(h.Graph().Roots, before.Roots) {
			t.Errorf("%+v: error %d", c, e)
		}
	}
	newTable(t, h)
	if got := h.Graph(); !slices.Equal(got.Roots, []int{-1, 0, 1, -1, 2}) || len(got.Nodes[0].Pointers) != 8 {
		t.Errorf("slots %d", got.Roots)
	}
}

func TestNoSpaceForDirectory(t *testing.T) {
	for _, kind := range []int{api.Sliding, api.Copying, api.Packing} {
		h := newHeap(t, kind, 16)
		h.Alloc(2, api.Header{Words: 7})
		h.Alloc(3, api.Header{Words: 7})
		if x, e := table.New(h, 1, [2]int{3, 0}); x != nil || e != api.ErrMemory || !slices.Equal(h.Graph().Roots, []int{-1, -1, 0, -1, -1}) {
			t.Errorf("kind %d: error %d", kind, e)
		}
		h.Clear(2)
		h.Alloc(2, api.Header{Words: 6})
		h.Alloc(3, api.Header{Words: 7})
		if x, e := table.New(h, 3, [2]int{1, 0}); x == nil || e != api.OK {
			t.Errorf("kind %d: space is left by the slots of the table: error %d", kind, e)
		}
	}
}

func TestExample(t *testing.T) {
	x := newTable(t, newHeap(t, api.Sliding, 64))
	x.Put(1, 2)
	if e := x.Add(1, -2); e != api.OK {
		t.Errorf("Add: error %d", e)
	}
	if f, e := x.Get(1); float.Bits(f) != 0 || e != api.OK || float.Bits(x.Sum()) != 0 {
		t.Errorf("Get: %g, error %d", f, e)
	}
}

func TestSums(t *testing.T) {
	x := newTable(t, newHeap(t, api.Copying, 128))
	for i, f := range []float64{math.Ldexp(1, 1000), 1, -math.Ldexp(1, 1000)} {
		x.Put(uint64(i), f)
	}
	if x.Sum() != 1 {
		t.Errorf("Sum %g", x.Sum())
	}
	x.Put(9, math.Inf(1))
	x.Put(17, math.Inf(-1))
	if float.Bits(x.Sum()) != 0x7FF8000000000000 {
		t.Errorf("Sum %g", x.Sum())
	}
	if e := x.Add(9, math.Inf(-1)); e != api.OK {
		t.Errorf("Add: error %d", e)
	}
	if f, _ := x.Get(9); float.Bits(f) != 0x7FF8000000000000 {
		t.Errorf("Get %x", float.Bits(f))
	}
	y := newTable(t, newHeap(t, api.Packing, 128))
	y.Put(3, math.Copysign(0, -1))
	if float.Bits(y.Sum()) != 1<<63 {
		t.Error("the sum of -0")
	}
	if y.Add(3, math.Copysign(0, -1)) != api.OK || float.Bits(y.Sum()) != 1<<63 {
		t.Error("-0 and -0")
	}
}

// TestRows looks at the objects of a table.
func TestRows(t *testing.T) {
	h := newHeap(t, api.Packing, 256)
	x := newTable(t, h)
	keys := []uint64{0, 8, 16, 3, math.MaxUint64, 7, 1 << 63, 13, 5}
	for _, k := range keys {
		x.Put(k, float64(k))
	}
	x.Drop(8)
	g := h.Graph()
	directory := g.Nodes[g.Roots[1]]
	if len(directory.Pointers) != 8 || len(directory.Floats)+len(directory.Words) != 0 {
		t.Fatalf("directory %+v", directory)
	}
	n := 0
	for row, k := range directory.Pointers {
		for ; k >= 0; k = g.Nodes[k].Pointers[0] {
			e := g.Nodes[k]
			if len(e.Pointers) != 1 || len(e.Floats) != 1 || len(e.Words) != 1 || e.Words[0]&7 != uint64(row) || !slices.Contains(keys, e.Words[0]) || e.Floats[0] != math.Float64bits(float64(e.Words[0])) {
				t.Fatalf("row %d: %+v", row, e)
			}
			n++
		}
	}
	if n != len(keys)-1 || len(g.Nodes) != n+1 {
		t.Errorf("%d entries, %d objects", n, len(g.Nodes))
	}
}

func TestNothing(t *testing.T) {
	var none *table.Table
	f, e := none.Get(0)
	if f != 0 || e != api.ErrNil || none.Put(0, 0) != api.ErrNil || none.Drop(0) != api.ErrNil || none.Add(0, 0) != api.ErrNil || float.Bits(none.Sum()) != 0 || none.Len() != 0 {
		t.Error("nil")
	}
	x := newTable(t, newHeap(t, api.Packing, 64))
	x.Put(8, 1)
	for _, k := range []uint64{0, 16, 7, math.MaxUint64} {
		f, e := x.Get(k)
		if f != 0 || e != api.ErrNone || x.Drop(k) != api.ErrNone || x.Add(k, 1) != api.ErrNone {
			t.Errorf("key %d", k)
		}
	}
}

// released checks that the work slots contain nil.
func released(t *testing.T, h *heap.Heap, call string) {
	t.Helper()
	for _, slot := range []int{3, 0} {
		if _, e := h.Shape(slot); e != api.ErrNull {
			t.Fatalf("after %s, work slot %d is in use", call, slot)
		}
	}
}

func TestWorkSlots(t *testing.T) {
	for _, kind := range []int{api.Sliding, api.Copying, api.Packing} {
		h := newHeap(t, kind, 64)
		x := newTable(t, h)
		released(t, h, "New")
		for i := range uint64(14) {
			x.Put(i*8%48, 1)
			released(t, h, "Put")
		}
		for i := range uint64(60) {
			x.Get(i)
			released(t, h, "Get")
			x.Add(i, 1)
			released(t, h, "Add")
		}
		x.Sum()
		released(t, h, "Sum")
		x.Len()
		released(t, h, "Len")
		for i := range uint64(60) {
			x.Drop(i)
			released(t, h, "Drop")
		}
	}
}

func TestNoSpace(t *testing.T) {
	for _, kind := range []int{api.Sliding, api.Copying, api.Packing} {
		x := newTable(t, newHeap(t, kind, 16))
		if x.Put(5, 1) != api.OK || x.Put(13, 1) != api.ErrMemory || x.Len() != 1 || x.Put(5, 2) != api.OK || x.Add(5, 2) != api.OK {
			t.Errorf("kind %d: Put", kind)
		}
		if x.Drop(5) != api.OK || x.Put(13, 1) != api.OK || x.Len() != 1 {
			t.Errorf("kind %d: no space after Drop", kind)
		}
	}
}

func TestAgainstModel(t *testing.T) {
	for seed := range int64(90) {
		r := rand.New(rand.NewSource(seed))
		h := newHeap(t, 1+int(seed%3), 128)
		x := newTable(t, h)
		model := map[uint64]float64{}
		for range 200 {
			key, f := uint64(r.Intn(16))<<uint(r.Intn(2)*60), float.Of([]uint64{0, 1 << 63, 0xFFF0000000000001, 0x3FF0000000000000, r.Uint64()}[r.Intn(5)])
			old, has := model[key]
			switch r.Intn(8) {
			case 0, 1, 2:
				e := x.Put(key, f)
				if want := has || len(model) < 29; (e == api.OK) != want || e != api.OK && e != api.ErrMemory {
					t.Fatalf("seed %d: Put: error %d", seed, e)
				}
				if e == api.OK {
					model[key] = f
				}
			case 3:
				if e := x.Drop(key); (e == api.OK) != has || e != api.OK && e != api.ErrNone {
					t.Fatalf("seed %d: Drop: error %d", seed, e)
				}
				delete(model, key)
			case 4:
				if e := x.Add(key, f); (e == api.OK) != has || e != api.OK && e != api.ErrNone {
					t.Fatalf("seed %d: Add: error %d", seed, e)
				}
				if has {
					model[key] = exact.Of(old, f)
				}
			case 5:
				h.Start()
			case 6:
				if r.Intn(3) == 0 {
					h.Collect()
				}
			}
			for r.Intn(2) == 0 {
				h.Step()
			}
			if objects, words := h.Live(); objects != len(model)+1 || words != 4*len(model)+9 || x.Len() != len(model) {
				t.Fatalf("seed %d: %d objects for %d entries", seed, objects, len(model))
			}
			sum := exact.New()
			for key, want := range model {
				if f, e := x.Get(key); !float.Same(f, want) || e != api.OK {
					t.Fatalf("seed %d: Get(%d): %x, error %d", seed, key, float.Bits(f), e)
				}
				sum.Add(want)
			}
			if !float.Same(x.Sum(), sum.Whole()) {
				t.Fatalf("seed %d: Sum %g", seed, x.Sum())
			}
		}
		for i, n := range h.Graph().Roots {
			if i != 1 && n != -1 {
				t.Fatalf("seed %d: slot %d is in use", seed, i)
			}
		}
	}
}
