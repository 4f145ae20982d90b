package tree_test

import (
	"math"
	"math/rand"
	"slices"
	"testing"

	"ullage/api"
	"ullage/float"
	"ullage/heap"
	"ullage/tree"
)

func newHeap(t *testing.T, kind, words int) *heap.Heap {
	t.Helper()
	h, e := heap.New(api.Config{Kind: kind, Page: 4, Block: 8, Words: words, Slots: 7, Stack: 2, Ahead: 1, Trigger: 0.7})
	if e != api.OK {
		t.Fatal(e)
	}
	return h
}

func newTree(t *testing.T, h *heap.Heap) *tree.Tree {
	t.Helper()
	x, e := tree.New(h, 1, [4]int{6, 0, 3, 4})
	if e != api.OK || x == nil || x.Len() != 0 {
		t.Fatalf("New: error %d", e)
	}
	return x
}

func TestNew(t *testing.T) {
	h := newHeap(t, api.Sliding, 64)
	for i := range 7 {
		h.Alloc(i, api.Header{Words: i})
	}
	before := h.Graph()
	if x, e := tree.New(nil, 9, [4]int{9, 9, 9, 9}); x != nil || e != api.ErrNil {
		t.Error("no heap")
	}
	for _, c := range []struct {
		root int
		work [4]int
		want api.Errno
	}{{7, [4]int{0, 0, 0, 0}, api.ErrSlot}, {0, [4]int{0, 0, 0, -1}, api.ErrSlot}, {0, [4]int{0, math.MaxInt, 0, 1}, api.ErrSlot}, {0, [4]int{1, 2, 3, 0}, api.ErrArg}, {0, [4]int{1, 2, 3, 2}, api.ErrArg}, {0, [4]int{1, 1, 3, 4}, api.ErrArg}, {5, [4]int{1, 2, 4, 4}, api.ErrArg}} {
		if x, e := tree.New(h, c.root, c.work); x != nil || e != c.want || !slices.Equal(h.Graph().Roots, before.Roots) {
			t.Errorf("%+v: error %d", c, e)
		}
	}
	newTree(t, h)
	if got := h.Graph().Roots; !slices.Equal(got, []int{-1, -1, 0, -1, -1, 1, -1}) {
		t.Errorf("slots %d", got)
	}
}

func TestExample(t *testing.T) {
	x := newTree(t, newHeap(t, api.Sliding, 64))
	for _, k := range []uint64{5, 3, 8} {
		x.Put(k, float64(k))
	}
	if e := x.Drop(5); e != api.OK {
		t.Errorf("Drop: error %d", e)
	}
	k, f, e := x.Next(4)
	if k != 8 || f != 8 || e != api.OK || x.Len() != 2 {
		t.Errorf("Next(4): %d, %g, error %d", k, f, e)
	}
}

// bounded checks that all keys from node n on lie from least to most, and returns how many there are.
func bounded(t *testing.T, g api.Graph, n int, least, most uint64) int {
	t.Helper()
	if n < 0 {
		return 0
	}
	x := g.Nodes[n]
	if len(x.Pointers) != 2 || len(x.Floats) != 1 || len(x.Words) != 1 {
		t.Fatalf("node %+v", x)
	}
	key := x.Words[0]
	if key < least || key > most || x.Floats[0] != math.Float64bits(float64(key)) {
		t.Fatalf("key %d is not between %d and %d", key, least, most)
	}
	return 1 + bounded(t, g, x.Pointers[0], least, key-1) + bounded(t, g, x.Pointers[1], key+1, most)
}

// TestNodes looks at the objects of trees.
func TestNodes(t *testing.T) {
	r := rand.New(rand.NewSource(41))
	for range 50 {
		h := newHeap(t, api.Packing, 256)
		x := newTree(t, h)
		for _, k := range r.Perm(30) {
			x.Put(uint64(k+1), float64(k+1))
		}
		for n := 30; n > 0; n-- {
			g := h.Graph()
			if len(g.Nodes) != n || bounded(t, g, g.Roots[1], 1, 30) != n {
				t.Fatalf("%d objects, not %d", len(g.Nodes), n)
			}
			for k := uint64(1 + r.Intn(30)); x.Drop(k) != api.OK; {
				k = k%30 + 1
			}
		}
	}
}

func TestNothing(t *testing.T) {
	var none *tree.Tree
	f, e1 := none.Get(0)
	k, g, e2 := none.Next(0)
	if f != 0 || k != 0 || g != 0 || e1 != api.ErrNil || e2 != api.ErrNil || none.Put(0, 0) != api.ErrNil || none.Drop(0) != api.ErrNil || none.Len() != 0 {
		t.Error("nil")
	}
	x := newTree(t, newHeap(t, api.Packing, 64))
	f, e1 = x.Get(0)
	k, g, e2 = x.Next(0)
	if f != 0 || k != 0 || g != 0 || e1 != api.ErrNone || e2 != api.ErrNone || x.Drop(0) != api.ErrNone {
		t.Error("an empty tree")
	}
}

func TestNoSpace(t *testing.T) {
	for _, kind := range []int{api.Sliding, api.Copying, api.Packing} {
		x := newTree(t, newHeap(t, kind, 16))
		for k := range uint64(3) {
			if e := x.Put(k, 1); e != api.OK {
				t.Fatalf("kind %d, key %d: error %d", kind, k, e)
			}
		}
		if e := x.Put(9, 1); e != api.ErrMemory || x.Len() != 3 {
			t.Errorf("kind %d: error %d", kind, e)
		}
		if e := x.Put(1, 5); e != api.OK {
			t.Errorf("kind %d: a key that is there: error %d", kind, e)
		}
		if e := x.Drop(0); e != api.OK || x.Put(9, 1) != api.OK {
			t.Errorf("kind %d: no space after Drop", kind)
		}
	}
}

// released checks that the work slots contain nil.
func released(t *testing.T, h *heap.Heap, call string) {
	t.Helper()
	for _, slot := range []int{6, 0, 3, 4} {
		if _, e := h.Shape(slot); e != api.ErrNull {
			t.Fatalf("after %s, work slot %d is in use", call, slot)
		}
	}
}

func TestWorkSlots(t *testing.T) {
	for _, kind := range []int{api.Sliding, api.Copying, api.Packing} {
		h := newHeap(t, kind, 64)
		x := newTree(t, h)
		released(t, h, "New")
		for i := range uint64(14) {
			x.Put(i*7%13, 1)
			released(t, h, "Put")
		}
		for i := range uint64(15) {
			x.Get(i)
			released(t, h, "Get")
			x.Next(i)
			released(t, h, "Next")
		}
		x.Len()
		released(t, h, "Len")
		for i := range uint64(15) {
			x.Drop(i * 5 % 14)
			released(t, h, "Drop")
		}
	}
}

// TestShape drops nodes of all shapes from small trees.
func TestShape(t *testing.T) {
	keys := []uint64{50, 20, 80, 10, 30, 60, 90, 5, 25, 35, 55, 70, 65, 67, 66, 100, 0, math.MaxUint64}
	for _, drop := range keys {
		h := newHeap(t, api.Sliding, 128)
		x := newTree(t, h)
		for _, k := range keys {
			x.Put(k, float64(k))
		}
		h.Start()
		if e := x.Drop(drop); e != api.OK || x.Len() != len(keys)-1 {
			t.Fatalf("Drop(%d): error %d, %d nodes", drop, e, x.Len())
		}
		if objects, _ := h.Live(); objects != len(keys)-1 {
			t.Fatalf("Drop(%d): %d objects", drop, objects)
		}
		for _, k := range keys {
			f, e := x.Get(k)
			if k == drop && e != api.ErrNone || k != drop && (e != api.OK || f != float64(k)) {
				t.Fatalf("Drop(%d): Get(%d) = %g, error %d", drop, k, f, e)
			}
		}
	}
}

func TestAgainstModel(t *testing.T) {
	for seed := range int64(90) {
		r := rand.New(rand.NewSource(seed))
		h := newHeap(t, 1+int(seed%3), 128)
		x := newTree(t, h)
		model := map[uint64]uint64{}
		for range 200 {
			key, bits := uint64(r.Intn(30))<<59|uint64(r.Intn(2)), []uint64{0, 1 << 63, 0xFFF0000000000001, r.Uint64()}[r.Intn(4)]
			_, has := model[key]
			switch r.Intn(7) {
			case 0, 1, 2:
				e := x.Put(key, float.Of(bits))
				if want := has || len(model) < 25; (e == api.OK) != want || e != api.OK && e != api.ErrMemory {
					t.Fatalf("seed %d: Put: error %d", seed, e)
				}
				if e == api.OK {
					model[key] = bits
				}
			case 3, 4:
				if e := x.Drop(key); (e == api.OK) != has || e != api.OK && e != api.ErrNone {
					t.Fatalf("seed %d: Drop: error %d", seed, e)
				}
				delete(model, key)
			case 5:
				h.Start()
			case 6:
				if r.Intn(3) == 0 {
					h.Collect()
				}
			}
			for r.Intn(2) == 0 {
				h.Step()
			}
			if objects, words := h.Live(); objects != len(model) || words != 5*len(model) || x.Len() != len(model) {
				t.Fatalf("seed %d: %d objects for %d nodes", seed, objects, len(model))
			}
			f, e := x.Get(key)
			if want, ok := model[key]; ok != (e == api.OK) || float.Bits(f) != want {
				t.Fatalf("seed %d: Get: %x, error %d", seed, float.Bits(f), e)
			}
		}
		var keys []uint64
		for k := range model {
			keys = append(keys, k)
		}
		slices.Sort(keys)
		from := uint64(0)
		for _, want := range keys {
			k, f, e := x.Next(from)
			if k != want || float.Bits(f) != model[want] || e != api.OK {
				t.Fatalf("seed %d: Next(%d) = %d, not %d", seed, from, k, want)
			}
			if k, _, _ := x.Next(want); k != want {
				t.Fatalf("seed %d: Next(%d) = %d", seed, want, k)
			}
			h.Step()
			from = want + 1
		}
		if k, f, e := x.Next(from); k != 0 || f != 0 || e != api.ErrNone {
			t.Fatalf("seed %d: Next(%d) = %d, error %d", seed, from, k, e)
		}
		for i, n := range h.Graph().Roots {
			if i != 1 && n != -1 {
				t.Fatalf("seed %d: slot %d is in use", seed, i)
			}
		}
	}
}
