package queue_test

import (
	"math"
	"math/rand"
	"slices"
	"testing"

	"ullage/api"
	"ullage/float"
	"ullage/heap"
	"ullage/queue"
)

func newHeap(t *testing.T, kind, words int) *heap.Heap {
	t.Helper()
	h, e := heap.New(api.Config{Kind: kind, Page: 4, Block: 8, Words: words, Slots: 8, Stack: 2, Ahead: 1, Trigger: 0.7})
	if e != api.OK {
		t.Fatal(e)
	}
	return h
}

func newQueue(t *testing.T, h *heap.Heap) *queue.Queue {
	t.Helper()
	q, e := queue.New(h, 1, [5]int{6, 0, 3, 4, 7})
	if e != api.OK || q == nil || q.Len() != 0 {
		t.Fatalf("New: error %d", e)
	}
	return q
}

func TestNew(t *testing.T) {
	h := newHeap(t, api.Sliding, 64)
	for i := range 8 {
		h.Alloc(i, api.Header{Words: i})
	}
	before := h.Graph()
	if q, e := queue.New(nil, 9, [5]int{9, 9}); q != nil || e != api.ErrNil {
		t.Error("no heap")
	}
	for _, c := range []struct {
		root int
		work [5]int
		want api.Errno
	}{{8, [5]int{}, api.ErrSlot}, {0, [5]int{0, 0, 0, 0, -1}, api.ErrSlot}, {0, [5]int{1, 2, 3, 4, math.MaxInt}, api.ErrSlot}, {0, [5]int{1, 2, 3, 4, 0}, api.ErrArg}, {0, [5]int{1, 2, 3, 4, 2}, api.ErrArg}, {5, [5]int{1, 2, 3, 4, 4}, api.ErrArg}} {
		if q, e := queue.New(h, c.root, c.work); q != nil || e != c.want || !slices.Equal(h.Graph().Roots, before.Roots) {
			t.Errorf("%+v: error %d", c, e)
		}
	}
	newQueue(t, h)
	if got := h.Graph().Roots; !slices.Equal(got, []int{-1, -1, 0, -1, -1, 1, -1, -1}) {
		t.Errorf("slots %d", got)
	}
}

func TestExample(t *testing.T) {
	q := newQueue(t, newHeap(t, api.Sliding, 64))
	l := []uint64{0x7FF8000000000000, 1 << 63, 0}
	for i, b := range l {
		if e := q.Push(float.Of(b), uint64(i)); e != api.OK {
			t.Fatalf("Push: error %d", e)
		}
	}
	for _, i := range []uint64{1, 2, 0} {
		f, w, e := q.Pop()
		if float.Bits(f) != l[i] || w != i || e != api.OK {
			t.Errorf("Pop: %x, %d, error %d", float.Bits(f), w, e)
		}
	}
}

// TestNodes looks at the objects of a queue.
func TestNodes(t *testing.T) {
	h := newHeap(t, api.Copying, 64)
	q := newQueue(t, h)
	for i := range 5 {
		q.Push(float64(i), uint64(10+i))
	}
	q.Pop()
	g := h.Graph()
	seen := map[uint64]bool{}
	for _, x := range g.Nodes {
		if len(x.Pointers) != 2 || len(x.Floats) != 1 || len(x.Words) != 1 || x.Floats[0] != math.Float64bits(float64(x.Words[0]-10)) {
			t.Fatalf("node %+v", x)
		}
		seen[x.Words[0]] = true
	}
	if len(g.Nodes) != 4 || len(seen) != 4 || seen[10] {
		t.Errorf("%+v", g)
	}
}

func TestNothing(t *testing.T) {
	var none *queue.Queue
	for _, pop := range []func() (float64, uint64, api.Errno){none.Pop, none.Peek} {
		if f, w, e := pop(); f != 0 || w != 0 || e != api.ErrNil {
			t.Error("nil")
		}
	}
	if none.Push(1, 1) != api.ErrNil || none.Len() != 0 {
		t.Error("nil")
	}
	q := newQueue(t, newHeap(t, api.Packing, 64))
	for _, pop := range []func() (float64, uint64, api.Errno){q.Pop, q.Peek} {
		if f, w, e := pop(); f != 0 || w != 0 || e != api.ErrNone {
			t.Error("an empty queue")
		}
	}
}

func TestNoSpace(t *testing.T) {
	for _, kind := range []int{api.Sliding, api.Copying, api.Packing} {
		q := newQueue(t, newHeap(t, kind, 16))
		for i := range 3 {
			if e := q.Push(float64(-i), 7); e != api.OK {
				t.Fatalf("kind %d, node %d: error %d", kind, i, e)
			}
		}
		if e := q.Push(9, 1); e != api.ErrMemory || q.Len() != 3 {
			t.Errorf("kind %d: error %d", kind, e)
		}
		if f, w, e := q.Pop(); f != -2 || w != 7 || e != api.OK || q.Push(-5, 1) != api.OK || q.Len() != 3 {
			t.Errorf("kind %d: %g, %d, error %d", kind, f, w, e)
		}
	}
}

// released checks that the work slots contain nil.
func released(t *testing.T, h *heap.Heap, call string) {
	t.Helper()
	for _, slot := range []int{6, 0, 3, 4, 7} {
		if _, e := h.Shape(slot); e != api.ErrNull {
			t.Fatalf("after %s, work slot %d is in use", call, slot)
		}
	}
}

func TestWorkSlots(t *testing.T) {
	for _, kind := range []int{api.Sliding, api.Copying, api.Packing} {
		h := newHeap(t, kind, 64)
		q := newQueue(t, h)
		released(t, h, "New")
		for i := range 14 {
			q.Push(float64(i*7%13), 1)
			released(t, h, "Push")
		}
		q.Len()
		released(t, h, "Len")
		for range 15 {
			q.Peek()
			released(t, h, "Peek")
			q.Pop()
			released(t, h, "Pop")
		}
	}
}

type node struct {
	f float64
	w uint64
}

func compare(a, b node) int {
	switch {
	case float.Before(a.f, b.f):
		return -1
	case float.Before(b.f, a.f):
		return 1
	case a.w < b.w:
		return -1
	case a.w > b.w:
		return 1
	}
	return 0
}

func TestAgainstModel(t *testing.T) {
	palette := []uint64{0, 1 << 63, 0xFFF0000000000001, 0x7FF8000000000000, 0x7FF0000000000000, 0xFFF0000000000000, 0x3FF0000000000000, 1}
	for seed := range int64(90) {
		r := rand.New(rand.NewSource(seed))
		h := newHeap(t, 1+int(seed%3), 128)
		q := newQueue(t, h)
		var model []node
		for range 200 {
			x := node{float.Of(palette[r.Intn(8)]), uint64(r.Intn(4)) << 62}
			switch r.Intn(8) {
			case 0, 1, 2:
				e := q.Push(x.f, x.w)
				if (e == api.OK) != (len(model) < 25) || e != api.OK && e != api.ErrMemory {
					t.Fatalf("seed %d: Push: error %d", seed, e)
				}
				if e == api.OK {
					model = append(model, x)
					slices.SortFunc(model, compare)
				}
			case 3, 4:
				f, w, e := q.Pop()
				if (e == api.OK) != (len(model) > 0) || e == api.OK && compare(node{f, w}, model[0]) != 0 {
					t.Fatalf("seed %d: Pop: %x, %d, error %d", seed, float.Bits(f), w, e)
				}
				model = model[min(1, len(model)):]
			case 5:
				h.Start()
			case 6:
				if r.Intn(3) == 0 {
					h.Collect()
				}
			}
			for r.Intn(2) == 0 {
				h.Step()
			}
			if objects, words := h.Live(); objects != len(model) || words != 5*len(model) || q.Len() != len(model) {
				t.Fatalf("seed %d: %d objects for %d nodes", seed, objects, len(model))
			}
			f, w, e := q.Peek()
			if (e == api.OK) != (len(model) > 0) || e == api.OK && compare(node{f, w}, model[0]) != 0 {
				t.Fatalf("seed %d: Peek: %x, %d, error %d", seed, float.Bits(f), w, e)
			}
		}
		h.Start()
		for _, x := range model {
			if f, w, e := q.Pop(); e != api.OK || compare(node{f, w}, x) != 0 {
				t.Fatalf("seed %d: Pop: %x, %d, error %d", seed, float.Bits(f), w, e)
			}
			h.Step()
		}
		for i, n := range h.Graph().Roots {
			if n != -1 {
				t.Fatalf("seed %d: slot %d is in use", seed, i)
			}
		}
	}
}

// TestManyNodes sorts floats.
func TestManyNodes(t *testing.T) {
	r := rand.New(rand.NewSource(40))
	h := newHeap(t, api.Sliding, 8192)
	q := newQueue(t, h)
	var model []node
	for range 1500 {
		x := node{float.Of(r.Uint64()), r.Uint64()}
		q.Push(x.f, x.w)
		model = append(model, x)
		h.Step()
	}
	slices.SortFunc(model, compare)
	for i, x := range model {
		if f, w, e := q.Pop(); e != api.OK || compare(node{f, w}, x) != 0 {
			t.Fatalf("node %d: %x, %d, error %d", i, float.Bits(f), w, e)
		}
	}
}
