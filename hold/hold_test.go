package hold_test

import (
	"testing"

	"ullage/api"
	"ullage/heap"
	"ullage/hold"
)

func newHeap(t *testing.T) *heap.Heap {
	t.Helper()
	h, e := heap.New(api.Config{Kind: api.Sliding, Page: 4, Block: 4, Words: 64, Slots: 3, Stack: 1, Trigger: 2})
	if e != api.OK {
		t.Fatal(e)
	}
	return h
}

func TestTake(t *testing.T) {
	h := newHeap(t)
	h.Alloc(0, api.Header{})
	h.Alloc(1, api.Header{})
	for _, c := range []struct {
		slots []int
		want  api.Errno
	}{{[]int{0, 3}, api.ErrSlot}, {[]int{-1, -1}, api.ErrSlot}, {[]int{0, 1, 0}, api.ErrArg}, {[]int{1, 1}, api.ErrArg}} {
		if e := hold.Take(h, c.slots...); e != c.want || hold.Empty(h, 0) || hold.Empty(h, 1) {
			t.Errorf("%d: error %d", c.slots, e)
		}
	}
	if hold.Take(nil, 0, 0) != api.ErrNil {
		t.Error("nil")
	}
	if e := hold.Take(h, 1, 2); e != api.OK || !hold.Empty(h, 1) || hold.Empty(h, 0) {
		t.Errorf("error %d", e)
	}
	hold.Release(h, 0)
	if !hold.Empty(h, 0) {
		t.Error("Release")
	}
}

func TestReached(t *testing.T) {
	h := newHeap(t)
	h.Alloc(0, api.Header{Pointers: 2})
	h.Alloc(1, api.Header{Pointers: 1})
	h.Store(0, 0, 1)
	h.Store(0, 1, 1)
	h.Store(1, 0, 0)
	h.Alloc(2, api.Header{Pointers: 1})
	h.Store(2, 0, 0)
	h.Start()
	before := h.Stats()
	if hold.Reached(h, 0) != 2 || hold.Reached(h, 1) != 2 || hold.Reached(h, 2) != 3 || h.Stats() != before {
		t.Error("Reached")
	}
	h.Clear(2)
	if hold.Reached(h, 2) != 0 {
		t.Error("Reached from nil")
	}
}
