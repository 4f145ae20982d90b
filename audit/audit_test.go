package audit_test

import (
	"math"
	"math/rand"
	"reflect"
	"testing"

	"ullage/api"
	"ullage/audit"
	"ullage/float"
	"ullage/graph"
	"ullage/heap"
)

func model(t *testing.T, words, slots int) *audit.Model {
	t.Helper()
	m, e := audit.New(words, slots)
	if e != api.OK || m == nil {
		t.Fatalf("New(%d, %d): error %d", words, slots, e)
	}
	return m
}

func TestNew(t *testing.T) {
	for _, c := range [][2]int{{0, 1}, {-1, 1}, {math.MinInt, 1}, {1, 0}, {1, -1}, {1, 65}, {1, math.MaxInt}} {
		if m, e := audit.New(c[0], c[1]); m != nil || e != api.ErrArg {
			t.Errorf("New(%d, %d): error %d", c[0], c[1], e)
		}
	}
	if m := model(t, 1, 1); m.Do(api.Op{Kind: api.OpAlloc}).Code != api.OK {
		t.Error("a model with space for one word")
	}
	m := model(t, math.MaxInt, 64)
	if n, words := m.Live(); n != 0 || words != 0 || len(m.Graph().Roots) != 64 || m.Graph().Roots[63] != -1 {
		t.Error("a model without objects")
	}
}

func TestExample(t *testing.T) {
	m := model(t, 4, 2)
	alloc := func(slot, words int) api.Errno {
		return m.Do(api.Op{Kind: api.OpAlloc, A: slot, Header: api.Header{Words: words}}).Code
	}
	if alloc(0, 4) != api.ErrMemory || alloc(0, 3) != api.OK || alloc(1, 0) != api.ErrMemory || alloc(0, 0) != api.ErrMemory {
		t.Error("Alloc")
	}
	m.Do(api.Op{Kind: api.OpClear})
	if alloc(1, 3) != api.OK {
		t.Error("Alloc after the slot was cleared")
	}
}

func TestReplies(t *testing.T) {
	m := model(t, 100, 3)
	odd := float.Of(0xFFF0000000000001)
	for i, c := range []struct {
		x    api.Op
		want api.Reply
	}{
		{api.Op{Kind: api.OpAlloc, A: 0, Header: api.Header{Pointers: 1, Floats: 2, Words: 1}}, api.Reply{}},
		{api.Op{Kind: api.OpAlloc, A: 3, Header: api.Header{Words: 999}}, api.Reply{Code: api.ErrSlot}},
		{api.Op{Kind: api.OpAlloc, A: 0, Header: api.Header{Words: 999}}, api.Reply{Code: api.ErrSize}},
		{api.Op{Kind: api.OpSetFloat, I: 1, Float: odd}, api.Reply{}},
		{api.Op{Kind: api.OpGetFloat, I: 1}, api.Reply{Word: 0xFFF0000000000001}},
		{api.Op{Kind: api.OpSum}, api.Reply{Word: 0x7FF8000000000000}},
		{api.Op{Kind: api.OpOrder, I: 1, Word: 2}, api.Reply{N: -1}},
		{api.Op{Kind: api.OpOrder, I: 2, Word: 1}, api.Reply{N: 1}},
		{api.Op{Kind: api.OpOrder, I: 2, Word: 256}, api.Reply{Code: api.ErrField}},
		{api.Op{Kind: api.OpOrder, I: 2, Word: math.MaxUint64}, api.Reply{Code: api.ErrField}},
		{api.Op{Kind: api.OpSet, I: 3, Word: 9}, api.Reply{}},
		{api.Op{Kind: api.OpGet, I: 3}, api.Reply{Word: 9}},
		{api.Op{Kind: api.OpGet, I: 4}, api.Reply{Code: api.ErrField}},
		{api.Op{Kind: api.OpGet, I: 2}, api.Reply{Code: api.ErrKind}},
		{api.Op{Kind: api.OpGet, A: 1, I: 4}, api.Reply{Code: api.ErrNull}},
		{api.Op{Kind: api.OpShape}, api.Reply{Header: api.Header{Pointers: 1, Floats: 2, Words: 1}}},
		{api.Op{Kind: api.OpStore, A: 0, B: 0}, api.Reply{}},
		{api.Op{Kind: api.OpLoad, A: 2, B: 0}, api.Reply{}},
		{api.Op{Kind: api.OpSame, A: 0, B: 2}, api.Reply{Is: true}},
		{api.Op{Kind: api.OpSame, A: 0, B: 1}, api.Reply{}},
		{api.Op{Kind: api.OpSame, A: 0, B: -1}, api.Reply{Code: api.ErrSlot}},
		{api.Op{Kind: api.OpCopy, A: 1, B: 0}, api.Reply{}},
		{api.Op{Kind: api.OpLive}, api.Reply{N: 1, Word: 5}},
		{api.Op{Kind: api.OpCollect}, api.Reply{}}, {api.Op{Kind: api.OpStart}, api.Reply{}}, {api.Op{Kind: api.OpStep}, api.Reply{}},
		{api.Op{}, api.Reply{Code: api.ErrBad}}, {api.Op{Kind: 18}, api.Reply{Code: api.ErrBad}}, {api.Op{Kind: -1}, api.Reply{Code: api.ErrBad}},
		{api.Op{Kind: api.OpClear, A: 5}, api.Reply{Code: api.ErrSlot}}, {api.Op{Kind: api.OpClear}, api.Reply{}},
	} {
		if got := m.Do(c.x); got != c.want {
			t.Errorf("operation %d: %+v", i, got)
		}
	}
	want := api.Graph{Roots: []int{-1, 0, 0}, Nodes: []api.Node{{Pointers: []int{0}, Floats: []uint64{0xFFF0000000000001, 0}, Words: []uint64{9}}}}
	if got := m.Graph(); !reflect.DeepEqual(got, want) {
		t.Errorf("Graph: %+v", got)
	}
	m.Graph().Nodes[0].Words[0] = 5
	if got := m.Graph(); !reflect.DeepEqual(got, want) {
		t.Error("Graph shares memory")
	}
}

// operations returns random operations, mostly ones that succeed.
func operations(r *rand.Rand, n, slots int) []api.Op {
	l := make([]api.Op, n)
	for i := range l {
		l[i] = api.Op{
			Kind: r.Intn(api.Ops + 1), A: r.Intn(slots), B: r.Intn(slots), I: r.Intn(4), Word: uint64(r.Intn(4)), Float: float.Of([]uint64{0, 1 << 63, 0x7FF0000000000000, 0xFFF0000000000001, r.Uint64()}[r.Intn(5)]),
			Header: api.Header{Pointers: r.Intn(3), Floats: r.Intn(3), Words: r.Intn(6)},
		}
		switch r.Intn(12) {
		case 0:
			l[i].A = r.Intn(9) - 2
		case 1:
			l[i].I = r.Intn(99) - 2
		case 2:
			l[i].Header.Floats = r.Intn(300) - 20
		case 3:
			l[i].Word = r.Uint64()
		case 4:
			l[i].B = -1
		default:
			if l[i].Kind == api.OpCollect {
				l[i].Kind = api.OpAlloc
			}
		}
	}
	return l
}

// TestRun performs random operations with random configurations: nothing differs.
func TestRun(t *testing.T) {
	for seed := range int64(600) {
		r := rand.New(rand.NewSource(seed))
		c := api.Config{Kind: 1 + int(seed%3), Page: 1 << r.Intn(7), Block: 1 << r.Intn(8), Words: 64 << r.Intn(4), Slots: 1 + r.Intn(6), Stack: 1 + r.Intn(6), Ahead: r.Intn(4), Trigger: []float64{0, 0.4, 0.8, math.NaN(), math.Inf(1)}[r.Intn(5)]}
		l := operations(r, 500, c.Slots)
		if n, e := audit.Run(c, l); n != -1 || e != api.OK {
			t.Fatalf("seed %d: %d, error %d", seed, n, e)
		}
		if seed%20 > 0 {
			continue
		}
		h, _ := heap.New(c)
		m := model(t, c.Words, c.Slots)
		for i, x := range l {
			a, b := h.Do(x), m.Do(x)
			n, words := h.Live()
			k, total := m.Live()
			if same, e := graph.Same(h.Graph(), m.Graph()); a != b || n != k || words != total || !same || e != api.OK {
				t.Fatalf("seed %d, operation %d", seed, i)
			}
		}
	}
}

func TestRunRefuses(t *testing.T) {
	if n, e := audit.Run(api.Config{}, nil); n != 0 || e != api.ErrConf {
		t.Errorf("%d, error %d", n, e)
	}
	if n, e := audit.Run(api.Config{Kind: api.Copying, Page: 4, Block: 4, Words: 16, Slots: 1, Stack: 1}, nil); n != -1 || e != api.OK {
		t.Errorf("%d, error %d", n, e)
	}
}

// TestLongList has a list of many objects.
func TestLongList(t *testing.T) {
	m := model(t, 1<<40, 2)
	for range 5000 {
		m.Do(api.Op{Kind: api.OpAlloc, A: 1, Header: api.Header{Pointers: 1}})
		m.Do(api.Op{Kind: api.OpStore, A: 1, B: 0})
		m.Do(api.Op{Kind: api.OpCopy, A: 0, B: 1})
	}
	if n, words := m.Live(); n != 5000 || words != 10000 {
		t.Errorf("%d objects, %d words", n, words)
	}
}

func TestNil(t *testing.T) {
	var m *audit.Model
	n, words := m.Live()
	if n+words != 0 || m.Do(api.Op{Kind: api.OpLive}) != (api.Reply{Code: api.ErrNil}) || !reflect.DeepEqual(m.Graph(), api.Graph{}) {
		t.Error("nil")
	}
}
