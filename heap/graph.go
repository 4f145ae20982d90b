package heap

import (
	"ullage/api"
	"ullage/header"
	"ullage/object"
)

// Graph returns the reachable objects, in the order in which they are found, and the contents of the slots.
func (h *Heap) Graph() api.Graph {
	if h == nil {
		return api.Graph{}
	}
	var found []int
	numbers := map[int]int{0: -1}
	find := func(a int) int {
		n, ok := numbers[a]
		if !ok {
			n = len(found)
			numbers[a] = n
			found = append(found, a)
		}
		return n
	}
	var g api.Graph
	for _, a := range h.slots.All() {
		g.Roots = append(g.Roots, find(a))
	}
	for i := 0; i < len(found); i++ {
		g.Nodes = append(g.Nodes, h.node(found[i], find))
	}
	return g
}

// node returns the object at a, with a number from find for each pointer.
func (h *Heap) node(a int, find func(a int) int) api.Node {
	var n api.Node
	x, _ := object.Read(view{h}, a)
	for i := range header.Size(x) - 1 {
		w, _ := view{h}.Load(a + 1 + i)
		switch header.Kind(x, i) {
		case header.Pointer:
			n.Pointers = append(n.Pointers, find(int(w)))
		case header.Float:
			n.Floats = append(n.Floats, w)
		case header.Word:
			n.Words = append(n.Words, w)
		}
	}
	return n
}

// Lay replaces the graph by the reachable part of g.
func (h *Heap) Lay(g api.Graph) api.Errno {
	if h == nil {
		return api.ErrNil
	}
	if !h.fits(g) {
		return api.ErrArg
	}
	reached, words := search(g)
	if words > h.conf.Words {
		return api.ErrMemory
	}
	h.finish()
	h.slots.Turn(func(int) int { return 0 })
	h.region.Release()
	addresses := map[int]int{-1: 0}
	for _, n := range reached {
		a, e := h.region.Alloc(header.Size(shape(g.Nodes[n])))
		if e != api.OK {
			return e
		}
		addresses[n] = a
	}
	for _, n := range reached {
		h.write(addresses[n], g.Nodes[n], addresses)
	}
	for i, n := range g.Roots {
		h.slots.Set(i, addresses[n])
	}
	return api.OK
}

// fits reports whether g is valid and has as many roots as the heap has slots.
func (h *Heap) fits(g api.Graph) bool {
	exist := func(l []int) bool {
		for _, n := range l {
			if n < -1 || n >= len(g.Nodes) {
				return false
			}
		}
		return true
	}
	if len(g.Roots) != h.conf.Slots || !exist(g.Roots) {
		return false
	}
	for _, n := range g.Nodes {
		if !exist(n.Pointers) || header.Check(shape(n)) != api.OK {
			return false
		}
	}
	return true
}

func shape(n api.Node) api.Header {
	return api.Header{Pointers: len(n.Pointers), Floats: len(n.Floats), Words: len(n.Words)}
}

// search returns the numbers of the nodes that the roots of g reach, and the sum of their sizes.
func search(g api.Graph) ([]int, int) {
	var reached []int
	seen := map[int]bool{-1: true}
	words := 0
	find := func(l []int) {
		for _, n := range l {
			if !seen[n] {
				seen[n] = true
				reached = append(reached, n)
				words += header.Size(shape(g.Nodes[n]))
			}
		}
	}
	find(g.Roots)
	for i := 0; i < len(reached); i++ {
		find(g.Nodes[reached[i]].Pointers)
	}
	return reached, words
}

// write makes the object of a node at address a.
func (h *Heap) write(a int, n api.Node, addresses map[int]int) {
	object.Make(h.memory, a, shape(n))
	a++
	for i, p := range n.Pointers {
		h.memory.Store(a+i, uint64(addresses[p]))
	}
	a += len(n.Pointers)
	for i, w := range n.Floats {
		h.memory.Store(a+i, w)
	}
	a += len(n.Floats)
	for i, w := range n.Words {
		h.memory.Store(a+i, w)
	}
}
