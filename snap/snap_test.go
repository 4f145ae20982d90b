package snap_test

import (
	"math"
	"math/rand"
	"strings"
	"testing"

	"ullage/api"
	"ullage/canon"
	"ullage/float"
	"ullage/graph"
	"ullage/heap"
	"ullage/seal"
	"ullage/snap"
	"ullage/wire"
	"ullage/world"
)

func conf(kind int) api.Config {
	return api.Config{Kind: kind, Page: 4, Block: 8, Words: 128, Slots: 3, Stack: 5, Ahead: 1, Trigger: 0.5}
}

func newHeap(t *testing.T, c api.Config) *heap.Heap {
	t.Helper()
	h, e := heap.New(c)
	if e != api.OK {
		t.Fatalf("New: error %d", e)
	}
	return h
}

func operations(r *rand.Rand, n int) []api.Op {
	l := make([]api.Op, n)
	for i := range l {
		l[i] = api.Op{
			Kind: 1 + r.Intn(api.OpStep), A: r.Intn(3), B: r.Intn(3), I: r.Intn(4), Word: uint64(r.Intn(4)), Float: float.Of([]uint64{0, 1 << 63, 0xFFF0000000000001, r.Uint64()}[r.Intn(4)]),
			Header: api.Header{Pointers: r.Intn(3), Floats: r.Intn(3), Words: r.Intn(6)},
		}
	}
	return l
}

func sameConf(a, b api.Config) bool {
	x, y := float.Bits(a.Trigger), float.Bits(b.Trigger)
	a.Trigger, b.Trigger = 0, 0
	return a == b && x == y
}

// TestSaveAndMove saves, loads and moves heaps between random operations: they continue alike.
func TestSaveAndMove(t *testing.T) {
	for seed := range int64(300) {
		r := rand.New(rand.NewSource(seed))
		c := conf(1 + int(seed%3))
		h := newHeap(t, c)
		for _, x := range operations(r, 60) {
			h.Do(x)
		}
		h.Start()
		before := h.Stats()
		s, e := snap.Save(h)
		if e != api.OK || h.Stats() != before {
			t.Fatalf("seed %d: Save: error %d", seed, e)
		}
		loaded, e := snap.Load(s)
		if e != api.OK || !sameConf(loaded.Conf(), c) {
			t.Fatalf("seed %d: Load: error %d", seed, e)
		}
		if again, e := snap.Save(loaded); again != s || e != api.OK {
			t.Fatalf("seed %d: saved again, the encoding differs", seed)
		}
		other := conf(1 + r.Intn(3))
		other.Page, other.Block, other.Stack, other.Trigger = 1<<r.Intn(6), 1<<r.Intn(6), 1, math.NaN()
		moved, e := snap.Move(h, other)
		if e != api.OK || !sameConf(moved.Conf(), other) || h.Stats() != before {
			t.Fatalf("seed %d: Move: error %d", seed, e)
		}
		for i, x := range operations(r, 100) {
			want := h.Do(x)
			if a, b := loaded.Do(x), moved.Do(x); a != want || b != want {
				t.Fatalf("seed %d, operation %d: %+v, %+v, not %+v", seed, i, a, b, want)
			}
		}
		for _, x := range []*heap.Heap{loaded, moved} {
			if same, e := graph.Same(h.Graph(), x.Graph()); !same || e != api.OK {
				t.Fatalf("seed %d: another graph", seed)
			}
		}
	}
}

func TestTriggers(t *testing.T) {
	for _, b := range []uint64{0xFFF0000000000001, 0x7FF8000000000000, 0x7FF0000000000000, 1 << 63, 0} {
		c := conf(api.Packing)
		c.Trigger = float.Of(b)
		s, e := snap.Save(newHeap(t, c))
		h, e2 := snap.Load(s)
		c.Trigger = float.Canon(c.Trigger)
		if e != api.OK || e2 != api.OK || !sameConf(h.Conf(), c) {
			t.Errorf("trigger %x: errors %d, %d", b, e, e2)
		}
	}
}

// encoded seals the encoding of a string and a rest.
func encoded(text, rest string) string {
	w := wire.NewWriter()
	w.Text(text)
	s, _ := w.Done()
	return seal.Seal(s + rest)
}

func put(g api.Graph) string {
	s, e := canon.Put(g)
	if e != api.OK {
		panic("canon")
	}
	return s
}

func TestEncoding(t *testing.T) {
	h := newHeap(t, conf(api.Sliding))
	h.Alloc(1, api.Header{Pointers: 1, Floats: 1, Words: 1})
	h.Store(1, 0, 1)
	text, _ := world.PutConf(h.Conf())
	if s, e := snap.Save(h); s != encoded(text, put(h.Graph())) || e != api.OK {
		t.Errorf("%q, error %d", s, e)
	}
}

func TestLoadRefuses(t *testing.T) {
	text, _ := world.PutConf(conf(api.Sliding))
	none := put(api.Graph{Roots: []int{-1, -1, -1}})
	if _, e := snap.Load(encoded(text, none)); e != api.OK {
		t.Fatalf("a good encoding: error %d", e)
	}
	spaced := strings.Replace(text, "page ", "page  ", 1)
	bad := strings.Replace(text, "page 4", "page 3", 1)
	for name, c := range map[string]struct {
		s    string
		want api.Errno
	}{
		"no bytes":                 {"", api.ErrShort},
		"wrong checksum":           {encoded(text, none)[1:], api.ErrSum},
		"no string":                {seal.Seal(""), api.ErrForm},
		"a string that is cut":     {seal.Seal("\x05abc"), api.ErrForm},
		"a string that is long":    {seal.Seal("\x80\x80\x04"), api.ErrForm},
		"a number in two bytes":    {seal.Seal("\x85\x00abcde"), api.ErrForm},
		"no configuration":         {encoded("", "x"), api.ErrLine},
		"a bad configuration":      {encoded(bad, "x"), api.ErrConf},
		"a line with a bad number": {encoded(strings.Replace(text, "page 4", "page x", 1), none), api.ErrForm},
		"no graph":                 {encoded(text, ""), api.ErrShort},
		"a damaged graph":          {encoded(text, "\x00"+none), api.ErrSum},
		"bytes that are no graph":  {encoded(text, seal.Seal("\x00")), api.ErrForm},
		"damaged graph, spaces":    {encoded(spaced, "\x00"+none), api.ErrSum},
		"spaces":                   {encoded(spaced, none), api.ErrForm},
		"a remark":                 {encoded("#\n"+text, none), api.ErrForm},
		"no last line feed":        {encoded(strings.TrimSuffix(text, "\n"), none), api.ErrForm},
		"other order":              {encoded("page 4\n"+strings.Replace(text, "page 4\n", "", 1), none), api.ErrForm},
		"other number of roots":    {encoded(text, put(api.Graph{Roots: []int{-1, -1}})), api.ErrArg},
		"spaces and other roots":   {encoded(spaced, put(api.Graph{Roots: []int{-1, -1}})), api.ErrForm},
		"a graph that is large":    {encoded(text, put(api.Graph{Roots: []int{0, -1, -1}, Nodes: []api.Node{{Words: make([]uint64, 128)}}})), api.ErrMemory},
	} {
		if h, e := snap.Load(c.s); h != nil || e != c.want {
			t.Errorf("%s: error %d, not %d", name, e, c.want)
		}
	}
}

func TestChangedBytes(t *testing.T) {
	h := newHeap(t, conf(api.Copying))
	h.Alloc(0, api.Header{Pointers: 1, Floats: 2, Words: 3})
	s, _ := snap.Save(h)
	for i := range len(s) {
		b := []byte(s)
		b[i] ^= byte(1 + i%255)
		if h, e := snap.Load(string(b)); h != nil || e != api.ErrSum {
			t.Errorf("byte %d is changed: error %d", i, e)
		}
	}
}

func TestMoveRefuses(t *testing.T) {
	h := newHeap(t, conf(api.Sliding))
	h.Alloc(0, api.Header{Words: 50})
	for name, c := range map[string]struct {
		change func(c *api.Config)
		want   api.Errno
	}{
		"page":  {func(c *api.Config) { c.Page, c.Words, c.Slots = 3, 16, 2 }, api.ErrConf},
		"slots": {func(c *api.Config) { c.Slots, c.Words = 2, 16 }, api.ErrArg},
		"words": {func(c *api.Config) { c.Words = 32 }, api.ErrMemory},
		"none":  {func(c *api.Config) {}, api.OK},
	} {
		x := conf(api.Packing)
		c.change(&x)
		if moved, e := snap.Move(h, x); e != c.want || (moved == nil) != (e != api.OK) {
			t.Errorf("%s: error %d", name, e)
		}
	}
	if moved, e := snap.Move(nil, api.Config{}); moved != nil || e != api.ErrNil {
		t.Errorf("nil: error %d", e)
	}
	if s, e := snap.Save(nil); s != "" || e != api.ErrNil {
		t.Errorf("nil: error %d", e)
	}
}
