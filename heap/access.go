package heap

import (
	"ullage/api"
	"ullage/exact"
	"ullage/float"
	"ullage/header"
	"ullage/object"
)

// check returns the error of using these slots.
func (h *Heap) check(slots ...int) api.Errno {
	if h == nil {
		return api.ErrNil
	}
	for _, slot := range slots {
		if _, e := h.slots.Get(slot); e != api.OK {
			return e
		}
	}
	return api.OK
}

// object returns the address and the header of the object of a slot, without moving anything.
func (h *Heap) object(slot int) (int, api.Header, api.Errno) {
	if e := h.check(slot); e != api.OK {
		return 0, api.Header{}, e
	}
	a, _ := h.slots.Get(slot)
	x, e := object.Read(view{h}, a)
	if e != api.OK {
		return 0, api.Header{}, e
	}
	return a, x, api.OK
}

// field returns the address of the object of a slot, whose field i must have the given kind, without moving anything.
func (h *Heap) field(slot, i, kind int) (int, api.Errno) {
	a, x, e := h.object(slot)
	if e != api.OK {
		return 0, e
	}
	switch header.Kind(x, i) {
	case kind:
		return a, api.OK
	case header.None:
		return 0, api.ErrField
	}
	return 0, api.ErrKind
}

// Load stores pointer i of the object of slot from in slot slot.
func (h *Heap) Load(slot, from, i int) api.Errno {
	if e := h.check(slot, from); e != api.OK {
		return e
	}
	a, e := h.field(from, i, header.Pointer)
	if e != api.OK {
		return e
	}
	defer h.settle()
	p, e := object.Pointer(h.space(), a, i)
	if e != api.OK {
		return e
	}
	return h.slots.Set(slot, p)
}

// Store stores the contents of slot from in pointer i of the object of slot slot.
func (h *Heap) Store(slot, i, from int) api.Errno {
	if e := h.check(slot, from); e != api.OK {
		return e
	}
	a, e := h.field(slot, i, header.Pointer)
	if e != api.OK {
		return e
	}
	defer h.settle()
	p, _ := h.slots.Get(from)
	return object.SetPointer(h.space(), a, i, p)
}

// Get returns word i of the object of a slot.
func (h *Heap) Get(slot, i int) (uint64, api.Errno) {
	a, e := h.field(slot, i, header.Word)
	if e != api.OK {
		return 0, e
	}
	defer h.settle()
	return object.Word(h.space(), a, i)
}

// Set replaces word i of the object of a slot.
func (h *Heap) Set(slot, i int, w uint64) api.Errno {
	a, e := h.field(slot, i, header.Word)
	if e != api.OK {
		return e
	}
	defer h.settle()
	return object.SetWord(h.space(), a, i, w)
}

// GetFloat returns float i of the object of a slot.
func (h *Heap) GetFloat(slot, i int) (float64, api.Errno) {
	a, e := h.field(slot, i, header.Float)
	if e != api.OK {
		return 0, e
	}
	defer h.settle()
	return object.Float(h.space(), a, i)
}

// SetFloat replaces float i of the object of a slot.
func (h *Heap) SetFloat(slot, i int, f float64) api.Errno {
	a, e := h.field(slot, i, header.Float)
	if e != api.OK {
		return e
	}
	defer h.settle()
	return object.SetFloat(h.space(), a, i, f)
}

// Copy stores the contents of slot from in slot slot.
func (h *Heap) Copy(slot, from int) api.Errno {
	if e := h.check(slot, from); e != api.OK {
		return e
	}
	return h.slots.Copy(slot, from)
}

// Clear stores nil in a slot.
func (h *Heap) Clear(slot int) api.Errno {
	if e := h.check(slot); e != api.OK {
		return e
	}
	return h.slots.Set(slot, 0)
}

// Same reports whether two slots contain the same object or are both nil.
func (h *Heap) Same(a, b int) (bool, api.Errno) {
	if e := h.check(a, b); e != api.OK {
		return false, e
	}
	x, _ := h.slots.Get(a)
	y, _ := h.slots.Get(b)
	return x == y, api.OK
}

// Shape returns the header of the object of a slot.
func (h *Heap) Shape(slot int) (api.Header, api.Errno) {
	_, x, e := h.object(slot)
	return x, e
}

// Sum returns the exact sum of all floats of the object of a slot, rounded.
func (h *Heap) Sum(slot int) (float64, api.Errno) {
	a, x, e := h.object(slot)
	if e != api.OK {
		return 0, e
	}
	defer h.settle()
	sum := exact.New()
	for i := range x.Floats {
		f, e := object.Float(h.space(), a, header.First(x, header.Float)+i)
		if e != api.OK {
			return 0, e
		}
		sum.Add(f)
	}
	return sum.Whole(), api.OK
}

// Order compares float i of the object of slot a with float k of the object of slot b in the total order.
func (h *Heap) Order(a, i, b, k int) (int, api.Errno) {
	for _, x := range [2][2]int{{a, i}, {b, k}} {
		if _, e := h.field(x[0], x[1], header.Float); e != api.OK {
			return 0, e
		}
	}
	f, e := h.GetFloat(a, i)
	if e != api.OK {
		return 0, e
	}
	g, e := h.GetFloat(b, k)
	switch {
	case e != api.OK:
		return 0, e
	case float.Before(f, g):
		return -1, api.OK
	case float.Before(g, f):
		return 1, api.OK
	}
	return 0, api.OK
}
