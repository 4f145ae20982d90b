package heap_test

import (
	"math"
	"math/rand"
	"slices"
	"testing"

	"ullage/api"
	"ullage/float"
	"ullage/heap"
)

var kinds = []int{api.Sliding, api.Copying, api.Packing}

func conf(kind, page, block, words, slots int) api.Config {
	return api.Config{Kind: kind, Page: page, Block: block, Words: words, Slots: slots, Stack: 3, Ahead: 1, Trigger: math.NaN()}
}

func newHeap(t *testing.T, c api.Config) *heap.Heap {
	t.Helper()
	h, e := heap.New(c)
	if e != api.OK || h == nil {
		t.Fatalf("New(%v): error %d", c, e)
	}
	return h
}

func sameGraphs(a, b api.Graph) bool {
	return slices.Equal(a.Roots, b.Roots) && slices.EqualFunc(a.Nodes, b.Nodes, func(x, y api.Node) bool {
		return slices.Equal(x.Pointers, y.Pointers) && slices.Equal(x.Floats, y.Floats) && slices.Equal(x.Words, y.Words)
	})
}

// checkStats checks what holds for every heap.
func checkStats(t *testing.T, h *heap.Heap, m *model) {
	t.Helper()
	s, c := h.Stats(), h.Conf()
	objects, words := m.live()
	if s.Objects != objects || s.Words != words || s.Used < words || s.High < s.Mapped || s.Open != (s.Left > 0) {
		t.Fatalf("%+v with %d objects, %d words", s, objects, words)
	}
	if pages := (s.Used + c.Page - 1) / c.Page; !s.Open && s.Mapped != pages {
		t.Fatalf("%d frames for %d words", s.Mapped, s.Used)
	}
	if c.Kind != api.Sliding && (s.Open || s.Blocks != 0) {
		t.Fatalf("a cycle of kind %d", c.Kind)
	}
	if again := h.Stats(); again != s {
		t.Fatalf("Stats changes %+v to %+v", s, again)
	}
}

func randomConf(r *rand.Rand, kind int) api.Config {
	c := conf(kind, 1<<r.Intn(7), 1<<r.Intn(8), 16<<r.Intn(6), 1+r.Intn(6))
	c.Page = min(c.Page, c.Words)
	c.Stack, c.Ahead = 1+r.Intn(4), r.Intn(4)
	c.Trigger = []float64{math.NaN(), 0, 0.3, 0.6, 1, math.Inf(1), math.Inf(-1), math.Copysign(0, -1)}[r.Intn(8)]
	return c
}

// TestAgainstModel gives heaps of all kinds the same operations as a model.
func TestAgainstModel(t *testing.T) {
	for seed := range int64(400) {
		r := rand.New(rand.NewSource(seed))
		c := randomConf(r, kinds[seed%3])
		if heap.Check(c) != api.OK {
			continue
		}
		h, m := newHeap(t, c), &model{words: c.Words, slots: make([]*thing, c.Slots)}
		for i := range 400 {
			x := operation(r, c.Slots, min(c.Words/2, 256))
			before := h.Stats()
			want, got := m.do(x), h.Do(x)
			if got != want {
				t.Fatalf("seed %d, operation %d, %+v: %+v, not %+v", seed, i, x, got, want)
			}
			if after := h.Stats(); got.Code != api.OK && !before.Open && after != before {
				t.Fatalf("seed %d, operation %d, %+v: an error changes %+v to %+v", seed, i, x, before, after)
			}
			if i%7 == 0 {
				checkStats(t, h, m)
				stats := h.Stats()
				if !sameGraphs(h.Graph(), m.graph()) {
					t.Fatalf("seed %d, operation %d: another graph", seed, i)
				}
				if h.Stats() != stats {
					t.Fatalf("seed %d: Graph moves", seed)
				}
			}
		}
	}
}

func TestCheck(t *testing.T) {
	good := conf(api.Sliding, 4, 8, 64, 2)
	with := func(change func(c *api.Config)) api.Config {
		c := good
		change(&c)
		return c
	}
	for i, c := range []api.Config{
		good, with(func(c *api.Config) { c.Kind = api.Copying }), with(func(c *api.Config) { c.Kind = api.Packing }),
		with(func(c *api.Config) { c.Page, c.Words = 16, 16 }), with(func(c *api.Config) { c.Page, c.Words = 256, 131072 }), with(func(c *api.Config) { c.Page, c.Block, c.Ahead = 1, 1, 16 }),
		with(func(c *api.Config) { c.Slots, c.Stack, c.Ahead, c.Block = 64, 4096, 0, 1024 }), with(func(c *api.Config) { c.Slots, c.Stack = 1, 1 }),
		with(func(c *api.Config) { c.Trigger = math.Inf(-1) }), with(func(c *api.Config) { c.Trigger = float.Of(0xFFF0000000000001) }),
		with(func(c *api.Config) { c.Kind, c.Page, c.Words = api.Packing, 1, 4096 }), with(func(c *api.Config) { c.Kind, c.Page, c.Words = api.Copying, 1, 2048 }),
		with(func(c *api.Config) { c.Page, c.Words, c.Block, c.Ahead = 1, 2048, 512, 1 }),
	} {
		if e := heap.Check(c); e != api.OK {
			t.Errorf("valid %d: error %d", i, e)
		}
		h := newHeap(t, c)
		if got := h.Conf(); float.Bits(got.Trigger) != float.Bits(c.Trigger) || got.Kind != c.Kind || got.Words != c.Words {
			t.Errorf("configuration %d: %+v", i, got)
		}
	}
	for i, c := range []api.Config{
		{}, with(func(c *api.Config) { c.Kind = 0 }), with(func(c *api.Config) { c.Kind = 4 }), with(func(c *api.Config) { c.Kind = -1 }),
		with(func(c *api.Config) { c.Page = 0 }), with(func(c *api.Config) { c.Page = 3 }), with(func(c *api.Config) { c.Page, c.Words = 512, 1024 }), with(func(c *api.Config) { c.Page = 128 }),
		with(func(c *api.Config) { c.Block = 0 }), with(func(c *api.Config) { c.Block = 12 }), with(func(c *api.Config) { c.Block = 2048 }),
		with(func(c *api.Config) { c.Words = 8 }), with(func(c *api.Config) { c.Words = 48 }), with(func(c *api.Config) { c.Words = 262144 }), with(func(c *api.Config) { c.Words = math.MinInt }),
		with(func(c *api.Config) { c.Slots = 0 }), with(func(c *api.Config) { c.Slots = 65 }), with(func(c *api.Config) { c.Stack = 0 }), with(func(c *api.Config) { c.Stack = 4097 }),
		with(func(c *api.Config) { c.Ahead = -1 }), with(func(c *api.Config) { c.Ahead = 17 }),
		with(func(c *api.Config) { c.Kind, c.Page, c.Words = api.Packing, 1, 8192 }), with(func(c *api.Config) { c.Kind, c.Page, c.Words = api.Copying, 1, 4096 }),
		with(func(c *api.Config) { c.Page, c.Words = 1, 4096 }), with(func(c *api.Config) { c.Page, c.Words, c.Block, c.Ahead = 1, 2048, 512, 2 }), with(func(c *api.Config) { c.Page, c.Words, c.Block, c.Ahead = 1, 2048, 1024, 0 }),
	} {
		h, e := heap.New(c)
		if h != nil || e != api.ErrConf || heap.Check(c) != api.ErrConf {
			t.Errorf("not valid %d: error %d", i, e)
		}
	}
}

func TestExample(t *testing.T) {
	for _, kind := range kinds {
		h := newHeap(t, conf(kind, 4, 8, 16, 3))
		x := api.Header{Words: 7}
		if h.Alloc(0, x) != api.OK || h.Alloc(1, x) != api.OK {
			t.Errorf("kind %d: two objects", kind)
		}
		before := h.Stats()
		if h.Alloc(2, api.Header{}) != api.ErrMemory || h.Alloc(0, x) != api.ErrMemory || h.Stats() != before {
			t.Errorf("kind %d: a third object", kind)
		}
		h.Set(1, 3, 77)
		h.Clear(0)
		if h.Alloc(2, x) != api.OK {
			t.Errorf("kind %d: no space after a slot was cleared", kind)
		}
		if w, e := h.Get(1, 3); w != 77 || e != api.OK {
			t.Errorf("kind %d: word %d, error %d", kind, w, e)
		}
	}
}

func TestRing(t *testing.T) {
	for _, kind := range kinds {
		h := newHeap(t, conf(kind, 4, 8, 64, 2))
		h.Alloc(0, api.Header{Pointers: 1, Words: 3})
		h.Store(0, 0, 0)
		for range 11 {
			h.Alloc(1, api.Header{Pointers: 1, Words: 3})
			h.Load(1, 0, 0)
			h.Alloc(1, api.Header{Pointers: 1, Words: 3})
			h.Store(1, 0, 0)
			h.Copy(0, 1)
		}
		h.Clear(0)
		h.Clear(1)
		h.Collect()
		if s := h.Stats(); s.Used != 0 || s.Mapped != 0 || s.Objects != 0 {
			t.Errorf("kind %d: %+v", kind, s)
		}
	}
}

// TestNothingBesideErrors tests that other results are zero if there is an error.
func TestNothingBesideErrors(t *testing.T) {
	h := newHeap(t, conf(api.Copying, 4, 8, 64, 3))
	h.Alloc(0, api.Header{Pointers: 1, Floats: 1, Words: 1})
	h.SetFloat(0, 1, 5)
	h.Set(0, 2, 5)
	for _, slot := range []int{-1, 0, 1, 3} {
		for _, i := range []int{-1, 0, 1, 2, 3} {
			w, e1 := h.Get(slot, i)
			f, e2 := h.GetFloat(slot, i)
			n, e3 := h.Order(slot, i, 0, 1)
			k, e4 := h.Order(0, 1, slot, i)
			if e1 != api.OK && w != 0 || e2 != api.OK && float.Bits(f) != 0 || e3 != api.OK && n != 0 || e4 != api.OK && k != 0 {
				t.Errorf("slot %d, field %d: %d, %g, %d, %d", slot, i, w, f, n, k)
			}
		}
		same, e1 := h.Same(slot, 0)
		again, e2 := h.Same(0, slot)
		x, e3 := h.Shape(slot)
		f, e4 := h.Sum(slot)
		if e1 != api.OK && same || e2 != api.OK && again || e3 != api.OK && x != (api.Header{}) || e4 != api.OK && float.Bits(f) != 0 {
			t.Errorf("slot %d: %v, %v, %v, %g", slot, same, again, x, f)
		}
	}
}

// TestErrors tests the order of errors.
func TestErrors(t *testing.T) {
	for _, kind := range kinds {
		h := newHeap(t, conf(kind, 4, 8, 64, 3))
		h.Alloc(0, api.Header{Pointers: 1, Floats: 1, Words: 1})
		for _, s := range []int{-1, 3, math.MaxInt, math.MinInt} {
			_, e1 := h.Get(s, 0)
			_, e2 := h.GetFloat(s, 0)
			_, e3 := h.Same(s, 0)
			_, e4 := h.Same(0, s)
			_, e5 := h.Shape(s)
			_, e6 := h.Sum(s)
			_, e7 := h.Order(s, 1, 1, 1)
			_, e8 := h.Order(0, 1, s, 1)
			for i, e := range []api.Errno{
				e1, e2, e3, e4, e5, e6, e7, e8, h.Alloc(s, api.Header{Words: 300}), h.Load(s, 1, 9), h.Load(1, s, 9), h.Store(s, 9, 0), h.Store(1, 9, s),
				h.Set(s, 0, 1), h.SetFloat(s, 0, 1), h.Copy(s, 0), h.Copy(0, s), h.Clear(s),
			} {
				if e != api.ErrSlot {
					t.Errorf("slot %d, call %d: error %d", s, i, e)
				}
			}
		}
		_, e1 := h.Get(1, 9)
		_, e2 := h.GetFloat(1, 9)
		_, e3 := h.Shape(1)
		_, e4 := h.Sum(1)
		_, e5 := h.Order(1, 9, 0, 9)
		_, e6 := h.Order(0, 1, 1, 9)
		for i, e := range []api.Errno{e1, e2, e3, e4, e5, e6, h.Load(0, 1, 9), h.Store(1, 9, 0), h.Set(1, 9, 1), h.SetFloat(1, 9, 1)} {
			if e != api.ErrNull {
				t.Errorf("nil, call %d: error %d", i, e)
			}
		}
		for _, i := range []int{-1, 3, math.MaxInt, math.MinInt} {
			_, e1 := h.Get(0, i)
			_, e2 := h.GetFloat(0, i)
			_, e3 := h.Order(0, i, 1, 1)
			_, e4 := h.Order(0, 1, 0, i)
			for k, e := range []api.Errno{e1, e2, e3, e4, h.Load(0, 0, i), h.Store(0, i, 0), h.Set(0, i, 1), h.SetFloat(0, i, 1)} {
				if e != api.ErrField {
					t.Errorf("field %d, call %d: error %d", i, k, e)
				}
			}
		}
		_, e1 = h.Get(0, 1)
		_, e2 = h.GetFloat(0, 0)
		_, e3 = h.Order(0, 2, 1, 1)
		_, e4 = h.Order(0, 1, 0, 0)
		for i, e := range []api.Errno{e1, e2, e3, e4, h.Load(0, 0, 1), h.Store(0, 2, 0), h.Set(0, 0, 1), h.SetFloat(0, 2, 1)} {
			if e != api.ErrKind {
				t.Errorf("kind, call %d: error %d", i, e)
			}
		}
		if e := h.Alloc(1, api.Header{Words: 256}); e != api.ErrSize {
			t.Errorf("Alloc: error %d", e)
		}
	}
}

func TestFloatsKeepTheirBits(t *testing.T) {
	for _, kind := range kinds {
		h := newHeap(t, conf(kind, 4, 8, 64, 2))
		h.Alloc(1, api.Header{Words: 5})
		h.Alloc(0, api.Header{Floats: 3})
		l := []uint64{0xFFF0000000000001, 1 << 63, 0x7FF0000000000001}
		for i, b := range l {
			h.SetFloat(0, i, float.Of(b))
		}
		h.Clear(1)
		h.Collect()
		h.Start()
		for i, b := range l {
			if f, e := h.GetFloat(0, i); float.Bits(f) != b || e != api.OK {
				t.Errorf("kind %d: %x, not %x", kind, float.Bits(f), b)
			}
		}
		if f, e := h.Sum(0); float.Bits(f) != 0x7FF8000000000000 || e != api.OK {
			t.Errorf("kind %d: sum %x", kind, float.Bits(f))
		}
		for i, f := range []float64{math.Ldexp(1, 1000), 1, -math.Ldexp(1, 1000)} {
			h.SetFloat(0, i, f)
		}
		if f, e := h.Sum(0); f != 1 || e != api.OK {
			t.Errorf("kind %d: sum %g", kind, f)
		}
	}
}

func TestCycle(t *testing.T) {
	h := newHeap(t, conf(api.Sliding, 4, 8, 256, 2))
	for range 8 {
		h.Alloc(1, api.Header{Pointers: 1, Words: 6})
		h.Store(1, 0, 0)
		h.Copy(0, 1)
	}
	if h.Step() {
		t.Error("Step without a cycle")
	}
	h.Start()
	if s := h.Stats(); !s.Open || s.Left != 8 || s.Blocks != 0 || s.Cycles != 0 {
		t.Errorf("an open cycle: %+v", s)
	}
	h.Start()
	if _, e := h.Get(0, 5); e != api.OK {
		t.Errorf("Get in the last block: error %d", e)
	}
	s := h.Stats()
	if !s.Open || s.Left < 7 || s.Blocks != 8-s.Left {
		t.Errorf("after Get: %+v", s)
	}
	for i := s.Left; i > 0; i-- {
		if !h.Step() || h.Stats().Left != i-1 {
			t.Errorf("step %d: %+v", i, h.Stats())
		}
	}
	if s := h.Stats(); s.Open || s.Cycles != 1 || s.Blocks != 8 || s.Mapped != 16 || h.Step() {
		t.Errorf("a finished cycle: %+v", s)
	}
	h.Clear(0)
	h.Clear(1)
	h.Start()
	if s := h.Stats(); s.Open || s.Cycles != 2 || s.Blocks != 8 || s.Mapped != 0 || s.Used != 0 {
		t.Errorf("a cycle of nothing: %+v", s)
	}
}

func TestCollect(t *testing.T) {
	for _, kind := range kinds {
		h := newHeap(t, conf(kind, 4, 8, 64, 2))
		h.Alloc(0, api.Header{Words: 6})
		h.Alloc(1, api.Header{Words: 5})
		h.Clear(0)
		if s := h.Stats(); s.Used != 13 || s.Words != 6 || s.Mapped != 4 {
			t.Errorf("kind %d: %+v", kind, s)
		}
		h.Start()
		h.Collect()
		want := 2
		if s := h.Stats(); s.Used != 6 || s.Mapped != 2 || s.Cycles != want || s.Open {
			t.Errorf("kind %d: %+v", kind, s)
		}
	}
}

func TestTrigger(t *testing.T) {
	for _, c := range []struct {
		trigger float64
		size    int
		opens   bool
	}{
		{math.NaN(), 16, false}, {-math.NaN(), 16, false}, {float.Of(0xFFF0000000000001), 16, false}, {math.Inf(1), 16, false}, {1, 15, false}, {1, 16, true}, {float.Up(1), 16, false}, {0.5, 7, false}, {0.5, 8, true}, {float.Up(0.5), 8, false}, {float.Down(0.5), 8, true},
		{0, 1, true}, {math.Copysign(0, -1), 1, true}, {-1, 1, true}, {math.Inf(-1), 1, true}, {math.MaxFloat64, 16, false},
	} {
		for _, kind := range kinds {
			x := conf(kind, 4, 8, 16, 1)
			x.Trigger = c.trigger
			h := newHeap(t, x)
			if e := h.Alloc(0, api.Header{Words: c.size - 1}); e != api.OK {
				t.Fatal(e)
			}
			s := h.Stats()
			if want := c.opens && kind == api.Sliding; s.Open != want || s.Cycles != 0 {
				t.Errorf("kind %d, trigger %g, %d words: %+v", kind, c.trigger, c.size, s)
			}
		}
	}
	x := conf(api.Sliding, 4, 8, 16, 2)
	h := newHeap(t, x)
	for range 50 {
		if h.Alloc(0, api.Header{Words: 6}) != api.OK || h.Stats().Open {
			t.Fatal("only Start opens a cycle if the trigger is a NaN")
		}
	}
}

// TestLayRandomGraphs lays random graphs, of which only a part is reachable.
func TestLayRandomGraphs(t *testing.T) {
	for seed := range int64(300) {
		r := rand.New(rand.NewSource(seed))
		h := newHeap(t, conf(kinds[seed%3], 4, 8, 128, 3))
		for range 3 {
			n := 1 + r.Intn(12)
			some := func(count int) []int {
				var l []int
				for range count {
					l = append(l, r.Intn(n+1)-1)
				}
				return l
			}
			g := api.Graph{Roots: some(3)}
			for i := range n {
				x := api.Node{Pointers: some(r.Intn(4))}
				for range r.Intn(3) {
					x.Floats = append(x.Floats, r.Uint64())
				}
				for range r.Intn(3) {
					x.Words = append(x.Words, uint64(i))
				}
				g.Nodes = append(g.Nodes, x)
			}
			var found []int
			numbers := map[int]int{-1: -1}
			find := func(l []int) []int {
				var out []int
				for _, k := range l {
					if _, ok := numbers[k]; !ok {
						numbers[k] = len(found)
						found = append(found, k)
					}
					out = append(out, numbers[k])
				}
				return out
			}
			want := api.Graph{Roots: find(g.Roots)}
			for i := 0; i < len(found); i++ {
				x := g.Nodes[found[i]]
				want.Nodes = append(want.Nodes, api.Node{Pointers: find(x.Pointers), Floats: x.Floats, Words: x.Words})
			}
			h.Start()
			if e := h.Lay(g); e != api.OK || !sameGraphs(h.Graph(), want) {
				t.Fatalf("seed %d: error %d, %+v, not %+v", seed, e, h.Graph(), want)
			}
			h.Collect()
			if !sameGraphs(h.Graph(), want) {
				t.Fatalf("seed %d: another graph after a collection", seed)
			}
		}
	}
}

func TestLay(t *testing.T) {
	leaf := api.Node{Floats: []uint64{0xFFF0000000000001, 1 << 63}, Words: []uint64{5}}
	good := api.Graph{Roots: []int{2, -1, 0}, Nodes: []api.Node{leaf, {Pointers: []int{1, 1, 1}}, {Pointers: []int{0, -1, 2}}}}
	for _, kind := range kinds {
		h := newHeap(t, conf(kind, 4, 2, 16, 3))
		h.Alloc(0, api.Header{Words: 9})
		h.Set(0, 3, 8)
		h.Start()
		h.Step()
		graph, stats := h.Graph(), h.Stats()
		for i, g := range []api.Graph{
			{}, {Roots: []int{-1, -1}}, {Roots: []int{-1, -1, -1, -1}}, {Roots: []int{0, -1, -1}}, {Roots: []int{-2, -1, -1}}, {Roots: []int{-1, -1, math.MaxInt}},
			{Roots: []int{-1, -1, -1}, Nodes: []api.Node{{Pointers: []int{1}}}}, {Roots: []int{-1, -1, -1}, Nodes: []api.Node{{Pointers: []int{-2}}}},
			{Roots: []int{-1, -1, -1}, Nodes: []api.Node{{Words: make([]uint64, 256)}}}, {Roots: []int{-1, -1, -1}, Nodes: []api.Node{{Floats: make([]uint64, 200), Words: make([]uint64, 56)}}},
		} {
			if e := h.Lay(g); e != api.ErrArg || h.Stats() != stats || !sameGraphs(h.Graph(), graph) {
				t.Errorf("kind %d, graph %d: error %d", kind, i, e)
			}
		}
		big := api.Graph{Roots: []int{0, 1, -1}, Nodes: []api.Node{{Words: make([]uint64, 8)}, {Words: make([]uint64, 7)}, {}}}
		if e := h.Lay(big); e != api.ErrMemory || h.Stats() != stats || !sameGraphs(h.Graph(), graph) {
			t.Errorf("kind %d: a large graph: error %d", kind, e)
		}
		big.Nodes[0].Words = big.Nodes[0].Words[1:]
		if e := h.Lay(big); e != api.OK || h.Stats().Used != 16 || h.Stats().Objects != 2 {
			t.Errorf("kind %d: a graph of all words: error %d, %+v", kind, e, h.Stats())
		}
		if e := h.Lay(good); e != api.OK || h.Stats().Open {
			t.Errorf("kind %d: error %d", kind, e)
		}
		want := api.Graph{Roots: []int{0, -1, 1}, Nodes: []api.Node{{Pointers: []int{1, -1, 0}}, leaf}}
		if !sameGraphs(h.Graph(), want) {
			t.Errorf("kind %d: %+v", kind, h.Graph())
		}
		h.Collect()
		if e := h.Lay(h.Graph()); e != api.OK || !sameGraphs(h.Graph(), want) {
			t.Errorf("kind %d: the graph of the heap itself", kind)
		}
	}
}

func TestLargeHeaps(t *testing.T) {
	for _, c := range []api.Config{
		{Kind: api.Sliding, Page: 64, Block: 128, Words: 8192, Slots: 3, Stack: 100, Ahead: 16, Trigger: 0.5},
		{Kind: api.Copying, Page: 256, Block: 1, Words: 8192, Slots: 3, Stack: 1, Trigger: 0.5},
		{Kind: api.Packing, Page: 32, Block: 8, Words: 8192, Slots: 3, Stack: 7, Trigger: 0.5},
	} {
		h := newHeap(t, c)
		n := 0
		for ; h.Alloc(1, api.Header{Pointers: 1, Floats: 1, Words: 1}) == api.OK; n++ {
			h.Store(1, 0, 0)
			h.Set(1, 2, uint64(n))
			h.Copy(0, 1)
			h.Step()
		}
		if n != c.Words/4 {
			t.Fatalf("kind %d: %d objects", c.Kind, n)
		}
		h.Clear(1)
		h.Start()
		for i := n - 1; i >= 0; i-- {
			if w, e := h.Get(0, 2); w != uint64(i) || e != api.OK {
				t.Fatalf("kind %d: word %d of object %d, error %d", c.Kind, w, i, e)
			}
			h.Load(0, 0, 0)
			h.Step()
		}
		h.Collect()
		if s := h.Stats(); s.Used != 0 || s.Mapped != 0 {
			t.Errorf("kind %d: %+v", c.Kind, s)
		}
	}
}

func TestGreatestHeaps(t *testing.T) {
	for _, kind := range kinds {
		h := newHeap(t, api.Config{Kind: kind, Page: 256, Block: 1024, Words: 131072, Slots: 64, Stack: 4096, Ahead: 16, Trigger: 0})
		for i := range 600 {
			if e := h.Alloc(i%64, api.Header{Words: 255}); e != api.OK {
				t.Fatalf("kind %d, object %d: error %d", kind, i, e)
			}
			h.Set(i%64, 254, uint64(i))
		}
		h.Collect()
		if s := h.Stats(); s.Used != 64*256 || s.Mapped != 64 || s.Objects != 64 {
			t.Errorf("kind %d: %+v", kind, s)
		}
		for i := range 64 {
			if w, e := h.Get(i, 254); int(w)%64 != i || w < 536 || e != api.OK {
				t.Errorf("kind %d: word %d of slot %d, error %d", kind, w, i, e)
			}
		}
	}
}

func TestGraphIsNew(t *testing.T) {
	h := newHeap(t, conf(api.Packing, 4, 8, 64, 2))
	h.Alloc(0, api.Header{Pointers: 1, Floats: 1, Words: 1})
	want, g := h.Graph(), h.Graph()
	g.Roots[0], g.Nodes[0].Pointers[0], g.Nodes[0].Floats[0], g.Nodes[0].Words[0] = 9, 9, 9, 9
	if !sameGraphs(h.Graph(), want) {
		t.Error("Graph shares memory")
	}
	lay := h.Graph()
	h.Lay(lay)
	h.Set(0, 2, 5)
	if !sameGraphs(lay, want) {
		t.Error("Lay shares memory")
	}
}

// TestHigh compares the greatest number of frames with those that were in use after each operation.
func TestHigh(t *testing.T) {
	h := newHeap(t, conf(api.Packing, 4, 8, 64, 2))
	high := 0
	for i := range 40 {
		h.Alloc(0, api.Header{Words: i % 7})
		high = max(high, h.Stats().Mapped)
		if s := h.Stats(); s.High != high {
			t.Fatalf("%+v, not %d", s, high)
		}
	}
}

func TestNil(t *testing.T) {
	var h *heap.Heap
	h.Collect()
	h.Start()
	_, e1 := h.Get(0, 0)
	_, e2 := h.GetFloat(0, 0)
	_, e3 := h.Same(0, 0)
	_, e4 := h.Shape(0)
	_, e5 := h.Sum(0)
	_, e6 := h.Order(0, 0, 0, 0)
	for i, e := range []api.Errno{
		e1, e2, e3, e4, e5, e6, h.Alloc(-1, api.Header{Words: -1}), h.Load(0, 0, 0), h.Store(0, 0, 0), h.Set(0, 0, 0), h.SetFloat(0, 0, 0), h.Copy(0, 0), h.Clear(0), h.Lay(api.Graph{}),
		h.Do(api.Op{}).Code, h.Do(api.Op{Kind: api.OpLive}).Code,
	} {
		if e != api.ErrNil {
			t.Errorf("call %d: error %d", i, e)
		}
	}
	n, w := h.Live()
	if n+w != 0 || h.Step() || h.Stats() != (api.Stats{}) || h.Conf() != (api.Config{}) || h.Graph().Roots != nil {
		t.Error("results")
	}
}

// TestFrames opens cycles whose source pages all hold something, and then allocates without a step.
func TestFrames(t *testing.T) {
	for seed := range int64(300) {
		r := rand.New(rand.NewSource(seed))
		c := conf(api.Sliding, 1<<r.Intn(6), 1<<r.Intn(7), 64<<r.Intn(3), 4)
		c.Ahead = r.Intn(5)
		h, m := newHeap(t, c), &model{words: c.Words, slots: make([]*thing, 4)}
		do := func(x api.Op) api.Errno {
			t.Helper()
			got, want := h.Do(x), m.do(x)
			if got != want {
				t.Fatalf("seed %d, %+v: %+v, not %+v", seed, x, got, want)
			}
			return got.Code
		}
		kept := 1 + r.Intn(6)
		for i := 0; h.Stats().Used+8 < c.Words; i++ {
			do(api.Op{Kind: api.OpAlloc, A: 1, Header: api.Header{Pointers: 1, Words: r.Intn(5)}})
			if i%kept == 0 {
				do(api.Op{Kind: api.OpStore, A: 1, B: 0})
				do(api.Op{Kind: api.OpCopy, A: 0, B: 1})
			}
		}
		do(api.Op{Kind: api.OpClear, A: 1})
		do(api.Op{Kind: api.OpStart})
		for do(api.Op{Kind: api.OpAlloc, A: 2, Header: api.Header{Pointers: 1, Words: r.Intn(30)}}) == api.OK {
			do(api.Op{Kind: api.OpStore, A: 2, B: 3})
			do(api.Op{Kind: api.OpCopy, A: 3, B: 2})
			if r.Intn(4) == 0 {
				do(api.Op{Kind: api.OpLoad, A: 1, B: []int{0, 1}[r.Intn(2)]})
			}
			checkStats(t, h, m)
		}
		if !sameGraphs(h.Graph(), m.graph()) {
			t.Fatalf("seed %d: another graph", seed)
		}
	}
}
