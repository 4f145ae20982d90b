package heap

import (
	"ullage/api"
	"ullage/float"
)

// mostField is the greatest number that OpOrder takes for that of a field.
const mostField = api.MaxSize - 1

// Do performs an operation. With an error, its reply contains nothing else.
func (h *Heap) Do(x api.Op) api.Reply {
	if h == nil {
		return api.Reply{Code: api.ErrNil}
	}
	r := h.perform(x)
	if r.Code != api.OK {
		return api.Reply{Code: r.Code}
	}
	return r
}

func (h *Heap) perform(x api.Op) api.Reply {
	var r api.Reply
	switch x.Kind {
	case api.OpAlloc:
		r.Code = h.Alloc(x.A, x.Header)
	case api.OpLoad:
		r.Code = h.Load(x.A, x.B, x.I)
	case api.OpStore:
		r.Code = h.Store(x.A, x.I, x.B)
	case api.OpGet:
		r.Word, r.Code = h.Get(x.A, x.I)
	case api.OpSet:
		r.Code = h.Set(x.A, x.I, x.Word)
	case api.OpGetFloat:
		r.Word, r.Code = bitsOf(h.GetFloat(x.A, x.I))
	case api.OpSetFloat:
		r.Code = h.SetFloat(x.A, x.I, x.Float)
	case api.OpCopy:
		r.Code = h.Copy(x.A, x.B)
	case api.OpClear:
		r.Code = h.Clear(x.A)
	case api.OpSame:
		r.Is, r.Code = h.Same(x.A, x.B)
	case api.OpShape:
		r.Header, r.Code = h.Shape(x.A)
	case api.OpSum:
		r.Word, r.Code = bitsOf(h.Sum(x.A))
	case api.OpOrder:
		r.N, r.Code = h.Order(x.A, x.I, x.B, fieldOf(x.Word))
	case api.OpLive:
		objects, words := h.Live()
		r.N, r.Word = objects, uint64(words)
	case api.OpCollect:
		h.Collect()
	case api.OpStart:
		h.Start()
	case api.OpStep:
		h.Step()
	default:
		r.Code = api.ErrBad
	}
	return r
}

func bitsOf(f float64, e api.Errno) (uint64, api.Errno) { return float.Bits(f), e }

// fieldOf returns the field number that OpOrder has as its word.
func fieldOf(w uint64) int {
	if w > mostField {
		return -1
	}
	return int(w)
}
