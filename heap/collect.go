package heap

import (
	"ullage/api"
	"ullage/copying"
	"ullage/extent"
	"ullage/float"
	"ullage/header"
	"ullage/mark"
	"ullage/object"
	"ullage/packing"
	"ullage/slide"
)

// Alloc makes an object with the header x in a slot.
func (h *Heap) Alloc(slot int, x api.Header) api.Errno {
	if e := h.check(slot); e != api.OK {
		return e
	}
	if e := header.Check(x); e != api.OK {
		return e
	}
	size := header.Size(x)
	if size > h.region.Left() {
		if _, words := h.Live(); words+size > h.conf.Words {
			return api.ErrMemory
		}
		h.Collect()
	}
	h.keepFrames(size)
	a, e := h.region.Alloc(size)
	if e != api.OK {
		return e
	}
	if e := object.Make(h.memory, a, x); e != api.OK {
		return e
	}
	h.slots.Set(slot, a)
	if h.due() {
		h.open()
	}
	return api.OK
}

// keepFrames moves blocks of the open cycle until an allocation leaves as many frames as the cycle may need: those
// of the blocks moved ahead and of the block that is being moved, and those of pages that are full at neither end.
func (h *Heap) keepFrames(size int) {
	page, top := h.conf.Page, h.region.Top()
	pages := (top+size-1)/page - top/page + 1
	needed := pages + (h.conf.Ahead+1)*blockFrames(h.conf) + partFrames
	for h.cycle != nil && h.memory.Room()-h.memory.Used() < needed {
		if !h.Step() {
			return
		}
	}
}

// due reports whether an allocation opens a cycle.
func (h *Heap) due() bool {
	if h.conf.Kind != api.Sliding || h.cycle != nil || float.Kind(h.conf.Trigger) == float.NaN {
		return false
	}
	return float64(h.used()) >= float64(h.conf.Trigger*float64(h.conf.Words))
}

// used returns the number of words in use.
func (h *Heap) used() int { return h.region.Top() - h.region.Base() }

// sliding returns the configuration of a cycle from the region in use to the other one.
func (h *Heap) sliding() slide.Conf {
	return slide.Conf{
		From: h.region.Base(), Top: h.region.Top(),
		To: h.other, Limit: h.other + h.conf.Words,
		Block: h.conf.Block, Stack: h.conf.Stack, Ahead: h.conf.Ahead,
	}
}

// open opens a cycle.
func (h *Heap) open() {
	cycle, e := slide.Open(h.memory, h.slots, h.sliding())
	if e != api.OK {
		return
	}
	h.cycle = cycle
	h.change(cycle.Top())
	h.settle()
}

// change goes over to the other region, which is used up to top.
func (h *Heap) change(top int) {
	base := h.region.Base()
	h.enter(h.other, top)
	h.other = base
}

// settle finishes the open cycle as soon as all of its blocks are moved.
func (h *Heap) settle() {
	if h.cycle != nil && h.cycle.Done() {
		h.cycles++
		h.blocks += h.cycle.Blocks()
		h.cycle = nil
	}
}

// finish moves all blocks of the open cycle.
func (h *Heap) finish() {
	for h.Step() {
	}
}

// Collect finishes an open cycle, and opens and finishes another one.
func (h *Heap) Collect() {
	if h == nil {
		return
	}
	switch h.conf.Kind {
	case api.Sliding:
		h.finish()
		h.open()
		h.finish()
	case api.Copying:
		if top, e := copying.Run(h.memory, h.slots, h.sliding()); e == api.OK {
			h.change(top)
			h.cycles++
		}
	case api.Packing:
		top, e := packing.Run(h.memory, h.slots, h.region.Base(), h.region.Top(), h.conf.Stack)
		if e == api.OK {
			h.region.Set(top)
			h.cycles++
		}
	}
}

// Start opens a cycle if none is open; collectors of other kinds collect.
func (h *Heap) Start() {
	switch {
	case h == nil:
	case h.conf.Kind != api.Sliding:
		h.Collect()
	case h.cycle == nil:
		h.open()
	}
}

// Step moves one block of the open cycle.
func (h *Heap) Step() bool {
	if h == nil || h.cycle == nil {
		return false
	}
	moved, _ := h.cycle.Step()
	h.settle()
	return moved
}

// Live returns the number of reachable objects and the sum of their sizes.
func (h *Heap) Live() (int, int) {
	if h == nil {
		return 0, 0
	}
	objects, e := extent.New(h.memory.Words())
	if e != api.OK {
		return 0, 0
	}
	stats, _ := mark.Run(view{h}, h.slots.All(), objects, h.conf.Stack)
	return stats.Objects, stats.Words
}

// Stats returns how the heap stands, without moving anything.
func (h *Heap) Stats() api.Stats {
	if h == nil {
		return api.Stats{}
	}
	objects, words := h.Live()
	return api.Stats{
		Objects: objects, Words: words, Used: h.used(),
		Mapped: h.memory.Used(), High: h.memory.High(),
		Cycles: h.cycles, Blocks: h.blocks + h.cycle.Blocks() - h.cycle.Left(),
		Open: h.cycle != nil, Left: h.cycle.Left(),
	}
}
