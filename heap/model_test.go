package heap_test

import (
	"math"
	"math/big"
	"math/rand"

	"ullage/api"
	"ullage/header"
)

// thing is an object of a model.
type thing struct {
	header   api.Header
	pointers []*thing
	values   []uint64 // floats, and then words
}

// model is a graph of objects in the memory of the test.
type model struct {
	words int
	slots []*thing
}

// found returns the reachable objects in the order in which they are found, and their numbers.
func (m *model) found() ([]*thing, map[*thing]int) {
	var l []*thing
	numbers := map[*thing]int{nil: -1}
	find := func(x *thing) {
		if _, ok := numbers[x]; !ok {
			numbers[x] = len(l)
			l = append(l, x)
		}
	}
	for _, x := range m.slots {
		find(x)
	}
	for i := 0; i < len(l); i++ {
		for _, p := range l[i].pointers {
			find(p)
		}
	}
	return l, numbers
}

func (m *model) live() (int, int) {
	l, _ := m.found()
	words := 0
	for _, x := range l {
		words += header.Size(x.header)
	}
	return len(l), words
}

func (m *model) graph() api.Graph {
	l, numbers := m.found()
	var g api.Graph
	for _, x := range m.slots {
		g.Roots = append(g.Roots, numbers[x])
	}
	for _, x := range l {
		n := api.Node{Floats: x.values[:x.header.Floats], Words: x.values[x.header.Floats:]}
		for _, p := range x.pointers {
			n.Pointers = append(n.Pointers, numbers[p])
		}
		g.Nodes = append(g.Nodes, n)
	}
	return g
}

func (m *model) missing(slots ...int) bool {
	for _, i := range slots {
		if i < 0 || i >= len(m.slots) {
			return true
		}
	}
	return false
}

// field returns the object of a slot and the position of its field i among pointers or values.
func (m *model) field(slot, i, kind int) (*thing, int, api.Errno) {
	if m.missing(slot) {
		return nil, 0, api.ErrSlot
	}
	x := m.slots[slot]
	switch {
	case x == nil:
		return nil, 0, api.ErrNull
	case header.Kind(x.header, i) == header.None:
		return nil, 0, api.ErrField
	case header.Kind(x.header, i) != kind:
		return nil, 0, api.ErrKind
	case kind == header.Pointer:
		return x, i, api.OK
	}
	return x, i - x.header.Pointers, api.OK
}

// sum adds floats without error.
func sum(l []uint64) uint64 {
	s := new(big.Float).SetPrec(2300)
	plus, minus, nan, zeros := false, false, false, 0
	for _, b := range l {
		switch f := math.Float64frombits(b); {
		case math.IsNaN(f):
			nan = true
		case math.IsInf(f, 0):
			plus, minus = plus || f > 0, minus || f < 0
		default:
			s.Add(s, new(big.Float).SetFloat64(f))
			if b == 1<<63 {
				zeros++
			}
		}
	}
	switch {
	case nan || plus && minus:
		return 0x7FF8000000000000
	case plus:
		return math.Float64bits(math.Inf(1))
	case minus:
		return math.Float64bits(math.Inf(-1))
	case len(l) > 0 && zeros == len(l):
		return 1 << 63
	case s.Sign() == 0:
		return 0
	}
	f, _ := s.Float64()
	return math.Float64bits(f)
}

// rank is the position of a float in the total order.
func rank(b uint64) uint64 {
	if b>>63 == 1 {
		return ^b
	}
	return b | 1<<63
}

func (m *model) do(x api.Op) api.Reply {
	r := m.perform(x)
	if r.Code != api.OK {
		return api.Reply{Code: r.Code}
	}
	return r
}

func (m *model) perform(x api.Op) (r api.Reply) {
	var o *thing
	var at int
	switch x.Kind {
	case api.OpAlloc:
		_, words := m.live()
		switch {
		case m.missing(x.A):
			r.Code = api.ErrSlot
		case header.Check(x.Header) != api.OK:
			r.Code = api.ErrSize
		case words+header.Size(x.Header) > m.words:
			r.Code = api.ErrMemory
		default:
			m.slots[x.A] = &thing{x.Header, make([]*thing, x.Header.Pointers), make([]uint64, x.Header.Floats+x.Header.Words)}
		}
	case api.OpLoad, api.OpStore:
		if m.missing(x.A, x.B) {
			r.Code = api.ErrSlot
		} else if x.Kind == api.OpLoad {
			if o, at, r.Code = m.field(x.B, x.I, header.Pointer); o != nil {
				m.slots[x.A] = o.pointers[at]
			}
		} else if o, at, r.Code = m.field(x.A, x.I, header.Pointer); o != nil {
			o.pointers[at] = m.slots[x.B]
		}
	case api.OpGet, api.OpSet, api.OpGetFloat, api.OpSetFloat:
		kind, value := header.Word, x.Word
		if x.Kind == api.OpGetFloat || x.Kind == api.OpSetFloat {
			kind, value = header.Float, math.Float64bits(x.Float)
		}
		if o, at, r.Code = m.field(x.A, x.I, kind); o == nil {
			break
		}
		if x.Kind == api.OpSet || x.Kind == api.OpSetFloat {
			o.values[at] = value
		} else {
			r.Word = o.values[at]
		}
	case api.OpCopy, api.OpSame:
		if m.missing(x.A, x.B) {
			r.Code = api.ErrSlot
		} else if x.Kind == api.OpSame {
			r.Is = m.slots[x.A] == m.slots[x.B]
		} else {
			m.slots[x.A] = m.slots[x.B]
		}
	case api.OpClear:
		if m.missing(x.A) {
			r.Code = api.ErrSlot
		} else {
			m.slots[x.A] = nil
		}
	case api.OpShape, api.OpSum:
		if m.missing(x.A) {
			r.Code = api.ErrSlot
		} else if o = m.slots[x.A]; o == nil {
			r.Code = api.ErrNull
		} else if x.Kind == api.OpShape {
			r.Header = o.header
		} else {
			r.Word = sum(o.values[:o.header.Floats])
		}
	case api.OpOrder:
		k := -1
		if x.Word <= 255 {
			k = int(x.Word)
		}
		if o, at, r.Code = m.field(x.A, x.I, header.Float); o == nil {
			break
		}
		first := o.values[at]
		if o, at, r.Code = m.field(x.B, k, header.Float); o == nil {
			break
		}
		switch second := o.values[at]; {
		case rank(first) < rank(second):
			r.N = -1
		case first != second:
			r.N = 1
		}
	case api.OpLive:
		n, words := m.live()
		r.N, r.Word = n, uint64(words)
	case api.OpCollect, api.OpStart, api.OpStep:
	default:
		r.Code = api.ErrBad
	}
	return r
}

var floats = []uint64{0, 1 << 63, 1, 0x3FF0000000000000, 0xBFF0000000000000, 0x7FF0000000000000, 0xFFF0000000000000, 0x7FF8000000000000, 0xFFF0000000000001, 0x7E70000000000000, 0xFE70000000000000}

// operation returns a random operation, mostly one that succeeds.
func operation(r *rand.Rand, slots, greatest int) api.Op {
	x := api.Op{Kind: 1 + r.Intn(api.OpStep), A: r.Intn(slots), B: r.Intn(slots), I: r.Intn(5), Word: uint64(r.Intn(6)), Float: math.Float64frombits(floats[r.Intn(len(floats))])}
	if r.Intn(4) == 0 {
		x.Kind = []int{api.OpAlloc, api.OpStore, api.OpLoad, api.OpStep}[r.Intn(4)]
	}
	if x.Kind == api.OpCollect && r.Intn(3) > 0 {
		x.Kind = api.OpAlloc
	}
	if x.Kind == api.OpClear && r.Intn(2) > 0 {
		x.Kind = api.OpCopy
	}
	x.Header = api.Header{Pointers: r.Intn(3), Floats: r.Intn(3), Words: r.Intn(3)}
	if r.Intn(9) == 0 {
		x.Header.Words = r.Intn(greatest)
	}
	switch r.Intn(60) {
	case 0:
		x.A = slots
	case 1:
		x.B = -1
	case 2:
		x.I = -1 - r.Intn(2)*math.MaxInt
	case 3:
		x.Word = r.Uint64()
	case 4:
		x.Header.Pointers = -1
	case 5:
		x.Kind = []int{0, -1, api.Ops, 99}[r.Intn(4)]
	}
	return x
}
