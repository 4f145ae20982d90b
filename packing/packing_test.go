package packing_test

import (
	"math"
	"math/rand"
	"slices"
	"testing"

	"ullage/api"
	"ullage/header"
	"ullage/object"
	"ullage/packing"
	"ullage/roots"
	"ullage/vmem"
)

// read returns the addresses of the reachable objects in the order in which they are found, and their words,
// with numbers in that order instead of pointers, and the numbers of the objects of the roots.
func read(m *vmem.Memory, r *roots.Table) ([]int, [][]uint64) {
	var found []int
	var words [][]uint64
	numbers := map[int]uint64{0: 0}
	find := func(a int) uint64 {
		if _, ok := numbers[a]; !ok {
			found = append(found, a)
			numbers[a] = uint64(len(found))
		}
		return numbers[a]
	}
	var slots []uint64
	for _, a := range r.All() {
		slots = append(slots, find(a))
	}
	for i := 0; i < len(found); i++ {
		h, _ := object.Read(m, found[i])
		var l []uint64
		for j := range header.Size(h) {
			w, _ := m.Load(found[i] + j)
			if header.Kind(h, j-1) == header.Pointer {
				w = find(int(w))
			}
			l = append(l, w)
		}
		words = append(words, l)
	}
	return found, append(words, slots)
}

func contents(m *vmem.Memory) []uint64 {
	var l []uint64
	for a := range m.Words() {
		w, e := m.Load(a)
		l = append(l, w, uint64(e))
	}
	return l
}

// random returns a memory with random objects, some with gaps between them, and roots that refer to some of them.
func random(seed int64, page, from int) (*vmem.Memory, *roots.Table, int) {
	rnd := rand.New(rand.NewSource(seed))
	m, _ := vmem.New(512, page, 512)
	r, _ := roots.New(5)
	at := from
	var starts []int
	for range rnd.Intn(25) {
		h := api.Header{Pointers: rnd.Intn(4), Floats: rnd.Intn(3), Words: rnd.Intn(3)}
		m.Need(at, at+header.Size(h))
		object.Make(m, at, h)
		for i := h.Pointers; i < header.Size(h)-1; i++ {
			m.Store(at+1+i, rnd.Uint64())
		}
		starts = append(starts, at)
		at += header.Size(h) + rnd.Intn(2)*rnd.Intn(9)
	}
	for _, a := range starts {
		h, _ := object.Read(m, a)
		for i := range h.Pointers {
			if rnd.Intn(3) > 0 {
				object.SetPointer(m, a, i, starts[rnd.Intn(len(starts))])
			}
		}
	}
	for i := range 4 {
		if len(starts) > 0 && rnd.Intn(2) == 0 {
			r.Set(i, starts[rnd.Intn(len(starts))])
		}
	}
	return m, r, at
}

// inOrder returns the objects in order of their addresses, by their positions in the order in which they are found.
func inOrder(found []int) []int {
	l := make([]int, len(found))
	for i := range l {
		l[i] = i
	}
	slices.SortFunc(l, func(i, j int) int { return found[i] - found[j] })
	return l
}

func TestSameGraph(t *testing.T) {
	for seed := range int64(1000) {
		page, from := 1<<(seed%5), 1+int(seed%21)
		m, r, top := random(seed, page, from)
		old, before := read(m, r)
		words := 0
		for _, l := range before[:len(before)-1] {
			words += len(l)
		}
		room := 1 + int(seed%4)
		end, e := packing.Run(m, r, from, top, room)
		if e != api.OK || end != from+words {
			t.Fatalf("seed %d: %d, error %d", seed, end, e)
		}
		found, after := read(m, r)
		if !slices.EqualFunc(before, after, slices.Equal[[]uint64]) || !slices.Equal(inOrder(old), inOrder(found)) {
			t.Fatalf("seed %d: another graph or another order", seed)
		}
		next := from
		for _, i := range inOrder(found) {
			if found[i] != next {
				t.Fatalf("seed %d: an object at %d, not %d", seed, found[i], next)
			}
			next += len(after[i])
		}
		for p := range m.Words() / page {
			if mapped := m.Mapped(p); p*page >= end && p*page < top && mapped || p*page+page > from && max(p*page, from) < end && !mapped {
				t.Fatalf("seed %d: page %d", seed, p)
			}
		}
		again, slots := contents(m), r.All()
		if next, e := packing.Run(m, r, from, top, room); next != end || e != api.OK || !slices.Equal(contents(m), again) || !slices.Equal(r.All(), slots) {
			t.Fatalf("seed %d: repeating the call changes something", seed)
		}
	}
}

func TestExample(t *testing.T) {
	m, _ := vmem.New(32, 4, 8)
	r, _ := roots.New(1)
	m.Need(4, 32)
	for a := 4; a < 16; a += 4 {
		object.Make(m, a, api.Header{Words: 3})
	}
	r.Set(0, 8)
	end, e := packing.Run(m, r, 4, 16, 1)
	if a, _ := r.Get(0); a != 4 || end != 8 || e != api.OK || !m.Mapped(1) || m.Mapped(2) || m.Mapped(3) || !m.Mapped(4) {
		t.Errorf("at %d, new top %d, error %d", a, end, e)
	}
}

func TestPagesThatStay(t *testing.T) {
	m, _ := vmem.New(32, 4, 8)
	r, _ := roots.New(1)
	m.Need(0, 32)
	if end, e := packing.Run(m, r, 6, 21, 1); end != 6 || e != api.OK || m.Used() != 4 || !m.Mapped(0) || !m.Mapped(1) || m.Mapped(2) || m.Mapped(5) || !m.Mapped(6) {
		t.Errorf("%d, error %d, %d frames", end, e, m.Used())
	}
	if end, e := packing.Run(m, r, 4, 4, 1); end != 4 || e != api.OK || m.Used() != 4 {
		t.Errorf("an empty range: %d, error %d", end, e)
	}
	if end, e := packing.Run(m, r, 4, 5, 1); end != 4 || e != api.OK || m.Mapped(1) {
		t.Errorf("a range of one word: %d, error %d", end, e)
	}
}

func TestErrors(t *testing.T) {
	for name, c := range map[string]struct {
		from, top, room int
		change          func(m *vmem.Memory, r *roots.Table)
		want            api.Errno
	}{
		"from 0":           {0, 28, 9, func(m *vmem.Memory, r *roots.Table) { r.Set(1, 5) }, api.ErrArg},
		"from below 0":     {math.MinInt, 28, 9, func(m *vmem.Memory, r *roots.Table) {}, api.ErrArg},
		"top below from":   {9, 8, 9, func(m *vmem.Memory, r *roots.Table) {}, api.ErrArg},
		"top too great":    {4, 65, 9, func(m *vmem.Memory, r *roots.Table) {}, api.ErrArg},
		"far away":         {math.MaxInt, math.MaxInt, 9, func(m *vmem.Memory, r *roots.Table) {}, api.ErrArg},
		"no stack":         {4, 28, 0, func(m *vmem.Memory, r *roots.Table) {}, api.ErrArg},
		"great stack":      {4, 28, 4097, func(m *vmem.Memory, r *roots.Table) {}, api.ErrArg},
		"no object":        {4, 28, 9, func(m *vmem.Memory, r *roots.Table) { r.Set(1, 5) }, api.ErrLost},
		"pointer":          {4, 28, 9, func(m *vmem.Memory, r *roots.Table) { object.SetPointer(m, 20, 0, 9) }, api.ErrLost},
		"below the range":  {9, 28, 9, func(m *vmem.Memory, r *roots.Table) {}, api.ErrLost},
		"above the range":  {4, 21, 9, func(m *vmem.Memory, r *roots.Table) {}, api.ErrLost},
		"too few frames":   {2, 28, 9, func(m *vmem.Memory, r *roots.Table) { m.Unmap(1); m.Need(40, 48) }, api.ErrFrames},
		"enough of frames": {4, 28, 9, func(m *vmem.Memory, r *roots.Table) {}, api.OK},
	} {
		m, _ := vmem.New(64, 4, 7)
		r, _ := roots.New(2)
		m.Need(4, 28)
		object.Make(m, 8, api.Header{Words: 2})
		object.Make(m, 20, api.Header{Pointers: 1})
		object.SetPointer(m, 20, 0, 8)
		r.Set(0, 8)
		r.Set(1, 20)
		c.change(m, r)
		slots, before := r.All(), contents(m)
		end, e := packing.Run(m, r, c.from, c.top, c.room)
		if e != c.want || e != api.OK && (end != 0 || !slices.Equal(r.All(), slots) || !slices.Equal(contents(m), before)) {
			t.Errorf("%s: %d, error %d", name, end, e)
		}
	}
	m, _ := vmem.New(64, 4, 8)
	r, _ := roots.New(2)
	if end, e := packing.Run(nil, r, 0, 0, 0); end != 0 || e != api.ErrNil {
		t.Error("no memory")
	}
	if end, e := packing.Run(m, nil, 0, 0, 0); end != 0 || e != api.ErrNil {
		t.Error("no roots")
	}
	if end, e := packing.Run(m, r, 1, 64, 4096); end != 1 || e != api.OK {
		t.Errorf("the greatest top and the greatest stack: %d, error %d", end, e)
	}
}

// TestWordsThatAreNotMapped has an object of which words are on a page that is not mapped: the call ends.
func TestWordsThatAreNotMapped(t *testing.T) {
	m, _ := vmem.New(64, 4, 16)
	r, _ := roots.New(1)
	m.Need(4, 12)
	h, _ := header.Put(api.Header{Words: 5})
	m.Store(10, h)
	r.Set(0, 10)
	packing.Run(m, r, 4, 16, 1)
}
