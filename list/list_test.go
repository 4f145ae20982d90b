package list_test

import (
	"math"
	"math/rand"
	"slices"
	"testing"

	"ullage/api"
	"ullage/float"
	"ullage/heap"
	"ullage/list"
)

func newHeap(t *testing.T, kind, words int) *heap.Heap {
	t.Helper()
	h, e := heap.New(api.Config{Kind: kind, Page: 4, Block: 8, Words: words, Slots: 5, Stack: 2, Ahead: 1, Trigger: 0.7})
	if e != api.OK {
		t.Fatal(e)
	}
	return h
}

func newList(t *testing.T, h *heap.Heap) *list.List {
	t.Helper()
	l, e := list.New(h, 1, [2]int{3, 0})
	if e != api.OK || l == nil || l.Len() != 0 {
		t.Fatalf("New: error %d", e)
	}
	return l
}

func TestNew(t *testing.T) {
	h := newHeap(t, api.Sliding, 64)
	for i := range 5 {
		h.Alloc(i, api.Header{Words: i})
	}
	before := h.Graph()
	if l, e := list.New(nil, 9, [2]int{9, 9}); l != nil || e != api.ErrNil {
		t.Error("no heap")
	}
	for _, c := range []struct {
		head int
		work [2]int
		want api.Errno
	}{{5, [2]int{0, 0}, api.ErrSlot}, {-1, [2]int{0, 1}, api.ErrSlot}, {0, [2]int{0, 5}, api.ErrSlot}, {0, [2]int{math.MinInt, 0}, api.ErrSlot}, {0, [2]int{0, 1}, api.ErrArg}, {0, [2]int{1, 0}, api.ErrArg}, {0, [2]int{1, 1}, api.ErrArg}} {
		if l, e := list.New(h, c.head, c.work); l != nil || e != c.want || !slices.Equal(h.Graph().Roots, before.Roots) {
			t.Errorf("%+v: error %d", c, e)
		}
	}
	newList(t, h)
	if got := h.Graph().Roots; !slices.Equal(got, []int{-1, -1, 0, -1, 1}) {
		t.Errorf("slots %d", got)
	}
}

func TestExample(t *testing.T) {
	l := newList(t, newHeap(t, api.Copying, 64))
	for i := range 3 {
		l.Push(uint64(i+1), 0)
	}
	l.Turn()
	if w, _, e := l.At(0); w != 1 || e != api.OK {
		t.Errorf("At(0): %d, error %d", w, e)
	}
}

// TestNodes looks at the objects of a list.
func TestNodes(t *testing.T) {
	h := newHeap(t, api.Sliding, 64)
	l := newList(t, h)
	l.Push(7, float.Of(0xFFF0000000000001))
	l.Push(8, -2)
	l.Push(9, 3)
	l.Pop()
	g := h.Graph()
	if !slices.Equal(g.Roots, []int{-1, 0, -1, -1, -1}) || len(g.Nodes) != 2 {
		t.Fatalf("%+v", g)
	}
	first, second := g.Nodes[0], g.Nodes[1]
	if !slices.Equal(first.Pointers, []int{1}) || !slices.Equal(second.Pointers, []int{-1}) || !slices.Equal(first.Words, []uint64{8}) || !slices.Equal(second.Words, []uint64{7}) {
		t.Errorf("%+v", g)
	}
	if !slices.Equal(first.Floats, []uint64{math.Float64bits(-2)}) || !slices.Equal(second.Floats, []uint64{0xFFF0000000000001}) {
		t.Errorf("%+v", g)
	}
}

func TestNothing(t *testing.T) {
	var none *list.List
	none.Turn()
	w, f, e := none.Pop()
	v, g, e2 := none.At(0)
	if w+v != 0 || f+g != 0 || e != api.ErrNil || e2 != api.ErrNil || none.Push(1, 1) != api.ErrNil || none.Set(0, 1, 1) != api.ErrNil || none.Len() != 0 {
		t.Error("nil")
	}
	l := newList(t, newHeap(t, api.Packing, 64))
	l.Turn()
	w, f, e = l.Pop()
	if w != 0 || f != 0 || e != api.ErrNone || l.Len() != 0 {
		t.Error("an empty list")
	}
	l.Push(7, 7)
	for _, i := range []int{-1, 1, 5, math.MaxInt, math.MinInt} {
		w, f, e := l.At(i)
		if w != 0 || f != 0 || e != api.ErrNone || l.Set(i, 1, 1) != api.ErrNone {
			t.Errorf("node %d", i)
		}
	}
}

func TestNoSpace(t *testing.T) {
	for _, kind := range []int{api.Sliding, api.Copying, api.Packing} {
		h := newHeap(t, kind, 32)
		h.Alloc(2, api.Header{Words: 2})
		l := newList(t, h)
		for i := range 7 {
			if e := l.Push(uint64(i), 1); e != api.OK {
				t.Fatalf("kind %d, node %d: error %d", kind, i, e)
			}
		}
		if e := l.Push(9, 1); e != api.ErrMemory || l.Len() != 7 {
			t.Errorf("kind %d: error %d", kind, e)
		}
		if w, _, e := l.Pop(); w != 6 || e != api.OK {
			t.Errorf("kind %d: Pop %d, error %d", kind, w, e)
		}
		if e := l.Push(9, 1); e != api.OK {
			t.Errorf("kind %d: error %d after Pop", kind, e)
		}
	}
}

type node struct {
	w uint64
	f float64
}

func same(a, b node) bool { return a.w == b.w && float.Same(a.f, b.f) }

// contents reads a list.
func contents(t *testing.T, l *list.List) []node {
	t.Helper()
	var all []node
	for i := range l.Len() {
		w, f, e := l.At(i)
		if e != api.OK {
			t.Fatalf("At(%d): error %d", i, e)
		}
		all = append(all, node{w, f})
	}
	return all
}

// released checks that the work slots contain nil.
func released(t *testing.T, h *heap.Heap, call string) {
	t.Helper()
	for _, slot := range []int{3, 0} {
		if _, e := h.Shape(slot); e != api.ErrNull {
			t.Fatalf("after %s, work slot %d is in use", call, slot)
		}
	}
}

func TestWorkSlots(t *testing.T) {
	for _, kind := range []int{api.Sliding, api.Copying, api.Packing} {
		h := newHeap(t, kind, 64)
		l := newList(t, h)
		released(t, h, "New")
		for i := range 17 {
			l.Push(uint64(i), 1)
			released(t, h, "Push")
		}
		for _, i := range []int{-1, 0, 3, 15, 16, 99} {
			l.At(i)
			released(t, h, "At")
			l.Set(i, 1, 1)
			released(t, h, "Set")
		}
		l.Turn()
		released(t, h, "Turn")
		l.Len()
		released(t, h, "Len")
		for range 17 {
			l.Pop()
			released(t, h, "Pop")
		}
	}
}

func TestAgainstModel(t *testing.T) {
	for seed := range int64(90) {
		r := rand.New(rand.NewSource(seed))
		h := newHeap(t, 1+int(seed%3), 128)
		l := newList(t, h)
		var model []node
		for range 150 {
			x := node{r.Uint64(), float.Of([]uint64{0, 1 << 63, 0xFFF0000000000001, r.Uint64()}[r.Intn(4)])}
			i := r.Intn(12)
			switch r.Intn(8) {
			case 0, 1, 2:
				e := l.Push(x.w, x.f)
				if (e == api.OK) != (len(model) < 32) || e != api.OK && e != api.ErrMemory {
					t.Fatalf("seed %d: Push: error %d", seed, e)
				}
				if e == api.OK {
					model = slices.Insert(model, 0, x)
				}
			case 3:
				w, f, e := l.Pop()
				if (e == api.OK) != (len(model) > 0) || e == api.OK && !same(node{w, f}, model[0]) {
					t.Fatalf("seed %d: Pop: error %d", seed, e)
				}
				model = model[min(1, len(model)):]
			case 4:
				if e := l.Set(i, x.w, x.f); (e == api.OK) != (i < len(model)) {
					t.Fatalf("seed %d: Set: error %d", seed, e)
				}
				if i < len(model) {
					model[i] = x
				}
			case 5:
				l.Turn()
				slices.Reverse(model)
			case 6:
				h.Start()
			case 7:
				if r.Intn(3) == 0 {
					h.Collect()
				}
			}
			for r.Intn(2) == 0 {
				h.Step()
			}
			if objects, words := h.Live(); objects != len(model) || words != 4*len(model) {
				t.Fatalf("seed %d: %d objects for %d nodes", seed, objects, len(model))
			}
			if !slices.EqualFunc(contents(t, l), model, same) {
				t.Fatalf("seed %d: another list", seed)
			}
			if roots := h.Graph().Roots; roots[3] != -1 || roots[0] != -1 {
				t.Fatalf("seed %d: a work slot is in use", seed)
			}
		}
		h.Start()
		l.Turn()
		h.Step()
		l.Turn()
		if !slices.EqualFunc(contents(t, l), model, same) {
			t.Fatalf("seed %d: reversed twice, another list", seed)
		}
	}
}
