// Package hold is what the data structures in a heap share: their root slots and their nodes.
package hold

import (
	"ullage/api"
	"ullage/heap"
)

// Take clears the slots of a data structure, which must exist and differ.
func Take(h *heap.Heap, slots ...int) api.Errno {
	if h == nil {
		return api.ErrNil
	}
	for _, slot := range slots {
		if _, e := h.Same(slot, slot); e != api.OK {
			return e
		}
	}
	for i, slot := range slots {
		for _, other := range slots[:i] {
			if slot == other {
				return api.ErrArg
			}
		}
	}
	Release(h, slots...)
	return api.OK
}

// Release clears slots.
func Release(h *heap.Heap, slots ...int) {
	for _, slot := range slots {
		h.Clear(slot)
	}
}

// Empty reports whether a slot contains nil.
func Empty(h *heap.Heap, slot int) bool {
	_, e := h.Shape(slot)
	return e != api.OK
}

// Reached returns the number of objects that are reachable from a slot, without moving anything.
func Reached(h *heap.Heap, slot int) int {
	g := h.Graph()
	seen := make([]bool, len(g.Nodes))
	var found []int
	find := func(nodes []int) {
		for _, n := range nodes {
			if n >= 0 && !seen[n] {
				seen[n] = true
				found = append(found, n)
			}
		}
	}
	find(g.Roots[slot : slot+1])
	for i := 0; i < len(found); i++ {
		find(g.Nodes[found[i]].Pointers)
	}
	return len(found)
}
