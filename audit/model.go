package audit

import (
	"slices"

	"ullage/api"
	"ullage/exact"
	"ullage/float"
	"ullage/header"
)

// mostField is the greatest number that OpOrder takes for that of a field.
const mostField = api.MaxSize - 1

// object is an object of a model.
type object struct {
	header   api.Header
	pointers []*object
	floats   []float64
	words    []uint64
	round    int // the search that found it last
	number   int // its number in this search
}

// Model is a graph of objects.
type Model struct {
	words int
	slots []*object
	used  int // the words of reachable objects at most
	round int // the number of searches so far
}

// New returns a model without objects.
func New(words, slots int) (*Model, api.Errno) {
	if words < 1 || slots < 1 || slots > api.MaxSlots {
		return nil, api.ErrArg
	}
	return &Model{words: words, slots: make([]*object, slots)}, api.OK
}

// Live returns the number of reachable objects and the sum of their sizes.
func (m *Model) Live() (int, int) {
	if m == nil {
		return 0, 0
	}
	m.round++
	objects, words := 0, 0
	var visit func(o *object)
	visit = func(o *object) {
		// The last pointer is followed in this loop, so that a long list is not nested deeply.
		for o != nil && o.round != m.round {
			o.round = m.round
			objects++
			words += header.Size(o.header)
			last := len(o.pointers) - 1
			if last < 0 {
				return
			}
			for _, p := range o.pointers[:last] {
				visit(p)
			}
			o = o.pointers[last]
		}
	}
	for _, o := range m.slots {
		visit(o)
	}
	m.used = words
	return objects, words
}

// Graph returns the reachable objects, in the order in which they are found, and the contents of the slots.
func (m *Model) Graph() api.Graph {
	if m == nil {
		return api.Graph{}
	}
	m.round++
	var found []*object
	find := func(l []*object) []int {
		var numbers []int
		for _, o := range l {
			if o == nil {
				numbers = append(numbers, -1)
				continue
			}
			if o.round != m.round {
				o.round, o.number = m.round, len(found)
				found = append(found, o)
			}
			numbers = append(numbers, o.number)
		}
		return numbers
	}
	g := api.Graph{Roots: find(m.slots)}
	for i := 0; i < len(found); i++ {
		o := found[i]
		n := api.Node{Pointers: find(o.pointers), Words: slices.Clone(o.words)}
		for _, f := range o.floats {
			n.Floats = append(n.Floats, float.Bits(f))
		}
		g.Nodes = append(g.Nodes, n)
	}
	return g
}

// Do performs an operation. With an error, its reply contains nothing else.
func (m *Model) Do(x api.Op) api.Reply {
	if m == nil {
		return api.Reply{Code: api.ErrNil}
	}
	r := m.perform(x)
	if r.Code != api.OK {
		return api.Reply{Code: r.Code}
	}
	return r
}

func (m *Model) perform(x api.Op) api.Reply {
	var r api.Reply
	switch x.Kind {
	case api.OpAlloc:
		r.Code = m.alloc(x.A, x.Header)
	case api.OpLoad, api.OpStore, api.OpCopy, api.OpSame:
		r.Is, r.Code = m.connect(x)
	case api.OpGet, api.OpSet:
		r.Word, r.Code = m.word(x)
	case api.OpGetFloat, api.OpSetFloat:
		r.Word, r.Code = m.float(x)
	case api.OpClear:
		r.Code = m.check(x.A)
		if r.Code == api.OK {
			m.slots[x.A] = nil
		}
	case api.OpShape, api.OpSum:
		o, e := m.object(x.A)
		r.Code = e
		if e == api.OK && x.Kind == api.OpShape {
			r.Header = o.header
		} else if e == api.OK {
			r.Word = float.Bits(exact.Of(o.floats...))
		}
	case api.OpOrder:
		r.N, r.Code = m.order(x)
	case api.OpLive:
		objects, words := m.Live()
		r.N, r.Word = objects, uint64(words)
	case api.OpCollect, api.OpStart, api.OpStep:
	default:
		r.Code = api.ErrBad
	}
	return r
}

// check returns ErrSlot if one of the slots does not exist.
func (m *Model) check(slots ...int) api.Errno {
	for _, i := range slots {
		if i < 0 || i >= len(m.slots) {
			return api.ErrSlot
		}
	}
	return api.OK
}

// object returns the object of a slot.
func (m *Model) object(slot int) (*object, api.Errno) {
	if e := m.check(slot); e != api.OK {
		return nil, e
	}
	if m.slots[slot] == nil {
		return nil, api.ErrNull
	}
	return m.slots[slot], api.OK
}

// field returns the object of a slot and the position of its field i among those of the given kind.
func (m *Model) field(slot, i, kind int) (*object, int, api.Errno) {
	o, e := m.object(slot)
	if e != api.OK {
		return nil, 0, e
	}
	switch header.Kind(o.header, i) {
	case kind:
		return o, i - header.First(o.header, kind), api.OK
	case header.None:
		return nil, 0, api.ErrField
	}
	return nil, 0, api.ErrKind
}

// alloc makes an object in a slot.
func (m *Model) alloc(slot int, x api.Header) api.Errno {
	if e := m.check(slot); e != api.OK {
		return e
	}
	if e := header.Check(x); e != api.OK {
		return e
	}
	size := header.Size(x)
	if size > m.words-m.used {
		m.Live()
	}
	if size > m.words-m.used {
		return api.ErrMemory
	}
	m.used += size
	m.slots[slot] = &object{
		header:   x,
		pointers: make([]*object, x.Pointers),
		floats:   make([]float64, x.Floats),
		words:    make([]uint64, x.Words),
	}
	return api.OK
}

// connect performs the operations that have two slots.
func (m *Model) connect(x api.Op) (bool, api.Errno) {
	if e := m.check(x.A, x.B); e != api.OK {
		return false, e
	}
	switch x.Kind {
	case api.OpSame:
		return m.slots[x.A] == m.slots[x.B], api.OK
	case api.OpCopy:
		m.slots[x.A] = m.slots[x.B]
		return false, api.OK
	case api.OpLoad:
		o, at, e := m.field(x.B, x.I, header.Pointer)
		if e == api.OK {
			m.slots[x.A] = o.pointers[at]
		}
		return false, e
	}
	o, at, e := m.field(x.A, x.I, header.Pointer)
	if e == api.OK {
		o.pointers[at] = m.slots[x.B]
	}
	return false, e
}

// word gets or sets a word.
func (m *Model) word(x api.Op) (uint64, api.Errno) {
	o, at, e := m.field(x.A, x.I, header.Word)
	if e != api.OK {
		return 0, e
	}
	if x.Kind == api.OpSet {
		o.words[at] = x.Word
		return 0, api.OK
	}
	return o.words[at], api.OK
}

// float gets or sets a float.
func (m *Model) float(x api.Op) (uint64, api.Errno) {
	o, at, e := m.field(x.A, x.I, header.Float)
	if e != api.OK {
		return 0, e
	}
	if x.Kind == api.OpSetFloat {
		o.floats[at] = x.Float
		return 0, api.OK
	}
	return float.Bits(o.floats[at]), api.OK
}

// order compares two floats.
func (m *Model) order(x api.Op) (int, api.Errno) {
	o, i, e := m.field(x.A, x.I, header.Float)
	if e != api.OK {
		return 0, e
	}
	field := -1
	if x.Word <= mostField {
		field = int(x.Word)
	}
	p, k, e := m.field(x.B, field, header.Float)
	switch {
	case e != api.OK:
		return 0, e
	case float.Before(o.floats[i], p.floats[k]):
		return -1, api.OK
	case float.Before(p.floats[k], o.floats[i]):
		return 1, api.OK
	}
	return 0, api.OK
}
