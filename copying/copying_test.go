package copying_test

import (
	"math/rand"
	"slices"
	"testing"

	"ullage/api"
	"ullage/copying"
	"ullage/header"
	"ullage/object"
	"ullage/roots"
	"ullage/slide"
	"ullage/vmem"
)

// read returns the addresses of the reachable objects in the order in which they are found, and their words,
// with numbers in that order instead of pointers, and the numbers of the objects of the roots.
func read(m *vmem.Memory, r *roots.Table) ([]int, [][]uint64) {
	var found []int
	var words [][]uint64
	numbers := map[int]uint64{0: 0}
	find := func(a int) uint64 {
		if _, ok := numbers[a]; !ok {
			found = append(found, a)
			numbers[a] = uint64(len(found))
		}
		return numbers[a]
	}
	var slots []uint64
	for _, a := range r.All() {
		slots = append(slots, find(a))
	}
	for i := 0; i < len(found); i++ {
		h, _ := object.Read(m, found[i])
		var l []uint64
		for j := range header.Size(h) {
			w, _ := m.Load(found[i] + j)
			if header.Kind(h, j-1) == header.Pointer {
				w = find(int(w))
			}
			l = append(l, w)
		}
		words = append(words, l)
	}
	return found, append(words, slots)
}

func contents(m *vmem.Memory) []uint64 {
	var l []uint64
	for a := range m.Words() {
		w, e := m.Load(a)
		l = append(l, w, uint64(e))
	}
	return l
}

// random returns a memory with random objects from address from on, their top, and roots that refer to some of them.
func random(seed int64, page, from, frames int) (*vmem.Memory, *roots.Table, int) {
	rnd := rand.New(rand.NewSource(seed))
	m, _ := vmem.New(1024, page, frames)
	r, _ := roots.New(5)
	at := from
	var starts []int
	for range rnd.Intn(25) {
		h := api.Header{Pointers: rnd.Intn(4), Floats: rnd.Intn(3), Words: rnd.Intn(3)}
		m.Need(at, at+header.Size(h))
		object.Make(m, at, h)
		for i := h.Pointers; i < header.Size(h)-1; i++ {
			m.Store(at+1+i, rnd.Uint64())
		}
		starts = append(starts, at)
		at += header.Size(h)
	}
	for _, a := range starts {
		h, _ := object.Read(m, a)
		for i := range h.Pointers {
			if rnd.Intn(3) > 0 {
				object.SetPointer(m, a, i, starts[rnd.Intn(len(starts))])
			}
		}
	}
	for i := range 4 {
		if len(starts) > 0 && rnd.Intn(2) == 0 {
			r.Set(i, starts[rnd.Intn(len(starts))])
		}
	}
	return m, r, at
}

func TestSameGraph(t *testing.T) {
	for seed := range int64(1000) {
		page := 1 << (seed % 5)
		from, to := 16, 528
		if seed%2 == 0 {
			from, to = to, from
		}
		m, r, top := random(seed, page, from, 1024)
		old, before := read(m, r)
		words := 0
		for _, l := range before[:len(before)-1] {
			words += len(l)
		}
		c := slide.Conf{From: from, Top: top, To: to, Limit: to + 496, Block: 1, Stack: 1 + int(seed%4)}
		end, e := copying.Run(m, r, c)
		if e != api.OK || end != to+words || m.Used() != (words+page-1)/page {
			t.Fatalf("seed %d: %d, error %d, %d frames", seed, end, e, m.Used())
		}
		found, after := read(m, r)
		if len(found) != len(old) || !slices.EqualFunc(before, after, slices.Equal[[]uint64]) {
			t.Fatalf("seed %d: another graph", seed)
		}
		next := to
		for i, a := range found {
			if a != next {
				t.Fatalf("seed %d: object %d at %d, not %d", seed, i, a, next)
			}
			next += len(after[i])
		}
	}
}

func TestOrder(t *testing.T) {
	m, _ := vmem.New(64, 4, 16)
	r, _ := roots.New(3)
	m.Need(4, 32)
	object.Make(m, 4, api.Header{Words: 1})
	object.Make(m, 8, api.Header{Words: 2})
	r.Set(0, 8)
	r.Set(1, 4)
	r.Set(2, 8)
	end, e := copying.Run(m, r, slide.Conf{From: 4, Top: 32, To: 32, Limit: 64, Block: 8, Stack: 1})
	if e != api.OK || end != 37 || !slices.Equal(r.All(), []int{32, 35, 32}) {
		t.Errorf("%d: %d, error %d", r.All(), end, e)
	}
}

func TestErrors(t *testing.T) {
	conf := slide.Conf{From: 4, Top: 28, To: 32, Limit: 64, Block: 8, Stack: 9}
	for name, c := range map[string]struct {
		change func(m *vmem.Memory, r *roots.Table, c *slide.Conf)
		want   api.Errno
	}{
		"configuration":    {func(m *vmem.Memory, r *roots.Table, c *slide.Conf) { r.Set(1, 5); c.Block = 3 }, api.ErrArg},
		"stack":            {func(m *vmem.Memory, r *roots.Table, c *slide.Conf) { c.Stack = 0 }, api.ErrArg},
		"ahead":            {func(m *vmem.Memory, r *roots.Table, c *slide.Conf) { c.Ahead = 17 }, api.ErrArg},
		"ranges":           {func(m *vmem.Memory, r *roots.Table, c *slide.Conf) { c.To = 24 }, api.ErrArg},
		"no object":        {func(m *vmem.Memory, r *roots.Table, c *slide.Conf) { r.Set(1, 5) }, api.ErrLost},
		"below the source": {func(m *vmem.Memory, r *roots.Table, c *slide.Conf) { c.From = 12; c.Limit = 32 }, api.ErrLost},
		"above the source": {func(m *vmem.Memory, r *roots.Table, c *slide.Conf) { c.Top = 21 }, api.ErrLost},
		"too many words":   {func(m *vmem.Memory, r *roots.Table, c *slide.Conf) { c.Limit = 36 }, api.ErrMemory},
		"too few frames":   {func(m *vmem.Memory, r *roots.Table, c *slide.Conf) { m.Need(0, 4) }, api.ErrFrames},
	} {
		m, _ := vmem.New(64, 4, 8)
		r, _ := roots.New(2)
		m.Need(4, 28)
		object.Make(m, 8, api.Header{Words: 2})
		object.Make(m, 20, api.Header{Pointers: 1})
		object.SetPointer(m, 20, 0, 8)
		r.Set(0, 8)
		r.Set(1, 20)
		x := conf
		c.change(m, r, &x)
		slots, before := r.All(), contents(m)
		if end, e := copying.Run(m, r, x); end != 0 || e != c.want || !slices.Equal(r.All(), slots) || !slices.Equal(contents(m), before) {
			t.Errorf("%s: %d, error %d", name, end, e)
		}
	}
	m, _ := vmem.New(64, 4, 8)
	r, _ := roots.New(2)
	if end, e := copying.Run(nil, r, slide.Conf{}); end != 0 || e != api.ErrNil {
		t.Error("no memory")
	}
	if end, e := copying.Run(m, nil, slide.Conf{}); end != 0 || e != api.ErrNil {
		t.Error("no roots")
	}
}

// TestPagesThatStay has mapped pages before and after the source range.
func TestPagesThatStay(t *testing.T) {
	m, _ := vmem.New(64, 4, 16)
	r, _ := roots.New(1)
	m.Need(0, 32)
	object.Make(m, 9, api.Header{Words: 2})
	r.Set(0, 9)
	for _, top := range []int{20, 18} {
		m.Need(8, 28)
		a, _ := r.Get(0)
		object.Copy(m, a, 9)
		r.Set(0, 9)
		m.Free(40, 64)
		end, e := copying.Run(m, r, slide.Conf{From: 8, Top: top, To: 40, Limit: 64, Block: 8, Stack: 1})
		if e != api.OK || end != 43 || m.Used() != 6 || !m.Mapped(1) || m.Mapped(2) || m.Mapped(4) || !m.Mapped(5) || !m.Mapped(10) {
			t.Errorf("top %d: %d, error %d, %d frames", top, end, e, m.Used())
		}
	}
}

// TestJustEnough copies into a range and into frames that are just large enough.
func TestJustEnough(t *testing.T) {
	m, _ := vmem.New(64, 4, 8)
	r, _ := roots.New(1)
	m.Need(4, 28)
	object.Make(m, 20, api.Header{Words: 7})
	r.Set(0, 20)
	end, e := copying.Run(m, r, slide.Conf{From: 4, Top: 28, To: 32, Limit: 40, Block: 8, Stack: 9})
	if e != api.OK || end != 40 || m.Used() != 2 {
		t.Errorf("%d, error %d", end, e)
	}
	end, e = copying.Run(m, r, slide.Conf{From: 32, Top: 40, To: 4, Limit: 12, Block: 8, Stack: 9})
	if e != api.OK || end != 12 || m.Used() != 2 {
		t.Errorf("back: %d, error %d", end, e)
	}
}

// TestWordsThatAreNotMapped has an object of which words are on a page that is not mapped: the call ends.
func TestWordsThatAreNotMapped(t *testing.T) {
	m, _ := vmem.New(64, 4, 16)
	r, _ := roots.New(1)
	m.Need(4, 8)
	h, _ := header.Put(api.Header{Words: 5})
	m.Store(6, h)
	r.Set(0, 6)
	copying.Run(m, r, slide.Conf{From: 4, Top: 12, To: 32, Limit: 64, Block: 8, Stack: 9})
}
