package graph_test

import (
	"math"
	"math/rand"
	"reflect"
	"slices"
	"testing"

	"ullage/api"
	"ullage/graph"
)

// random returns a valid graph of at most n nodes.
func random(r *rand.Rand, n int) api.Graph {
	n = r.Intn(n + 1)
	g := api.Graph{Roots: make([]int, r.Intn(4))}
	for i := range g.Roots {
		g.Roots[i] = r.Intn(n+1) - 1
	}
	for range n {
		x := api.Node{Pointers: make([]int, r.Intn(4))}
		for i := range x.Pointers {
			x.Pointers[i] = r.Intn(n+1) - 1
		}
		for range r.Intn(3) {
			x.Floats = append(x.Floats, uint64(r.Intn(3))<<63|uint64(r.Intn(2)))
		}
		for range r.Intn(3) {
			x.Words = append(x.Words, uint64(r.Intn(3)))
		}
		g.Nodes = append(g.Nodes, x)
	}
	return g
}

// renumbered returns g with its nodes in another order and with unreachable nodes.
func renumbered(r *rand.Rand, g api.Graph) api.Graph {
	n := len(g.Nodes) + r.Intn(3)
	numbers := r.Perm(n)
	number := func(l []int) []int {
		out := make([]int, len(l))
		for i, k := range l {
			out[i] = -1
			if k >= 0 {
				out[i] = numbers[k]
			}
		}
		return out
	}
	h := api.Graph{Roots: number(g.Roots), Nodes: make([]api.Node, n)}
	for i := range h.Nodes {
		h.Nodes[i] = api.Node{Pointers: []int{r.Intn(n+1) - 1}, Words: []uint64{7}}
	}
	for i, x := range g.Nodes {
		h.Nodes[numbers[i]] = api.Node{Pointers: number(x.Pointers), Floats: slices.Clone(x.Floats), Words: slices.Clone(x.Words)}
	}
	return h
}

func invalid() []api.Graph {
	return []api.Graph{
		{Roots: []int{0}}, {Roots: []int{-2}}, {Roots: []int{math.MaxInt}}, {Roots: []int{math.MinInt}}, {Roots: []int{-1, 1}, Nodes: []api.Node{{}}},
		{Nodes: []api.Node{{Pointers: []int{1}}}}, {Nodes: []api.Node{{Pointers: []int{-2}}}}, {Nodes: []api.Node{{}, {Words: make([]uint64, 256)}}},
		{Nodes: []api.Node{{Pointers: make([]int, 100), Floats: make([]uint64, 100), Words: make([]uint64, 56)}}},
	}
}

func TestInvalid(t *testing.T) {
	good := api.Graph{Roots: []int{0}, Nodes: []api.Node{{}}}
	for i, g := range invalid() {
		l, e1 := graph.Reach(g)
		trim, e2 := graph.Trim(g)
		words, e3 := graph.Words(g)
		same1, e4 := graph.Same(g, good)
		same2, e5 := graph.Same(good, g)
		path, e6 := graph.Path(g, 0)
		none, e7 := graph.Path(g, 99)
		pointed, e8 := graph.Pointed(g)
		for k, e := range []api.Errno{graph.Check(g), e1, e2, e3, e4, e5, e6, e7, e8} {
			if e != api.ErrArg {
				t.Errorf("graph %d, call %d: error %d", i, k, e)
			}
		}
		if l != nil || trim.Roots != nil || trim.Nodes != nil || words != 0 || same1 || same2 || path != nil || none != nil || pointed != nil {
			t.Errorf("graph %d: results", i)
		}
	}
	for i, g := range []api.Graph{{}, {Roots: []int{-1}}, {Roots: []int{0}, Nodes: []api.Node{{Words: make([]uint64, 255)}}}, {Nodes: []api.Node{{Pointers: []int{0, -1}}}}} {
		if e := graph.Check(g); e != api.OK {
			t.Errorf("valid graph %d: error %d", i, e)
		}
	}
}

func TestExample(t *testing.T) {
	g := api.Graph{Roots: []int{1, -1}, Nodes: []api.Node{{Words: []uint64{3}}, {Pointers: []int{0}}}}
	l, _ := graph.Reach(g)
	path, e := graph.Path(g, 0)
	if !slices.Equal(l, []int{1, 0}) || !slices.Equal(path, []int{0, 0}) || e != api.OK {
		t.Errorf("Reach %d, Path %d", l, path)
	}
}

func TestFound(t *testing.T) {
	g := api.Graph{Roots: []int{-1, 3, 1, 3}, Nodes: []api.Node{
		{Pointers: []int{4, 0}}, {Pointers: []int{5, 3, -1}, Floats: []uint64{9}}, {Pointers: []int{0}, Words: []uint64{1}}, {Pointers: []int{-1, 6, 1}}, {}, {Words: []uint64{8, 8}}, {Pointers: []int{5, 6}},
	}}
	l, _ := graph.Reach(g)
	if !slices.Equal(l, []int{3, 1, 6, 5}) {
		t.Errorf("Reach: %d", l)
	}
	trim, _ := graph.Trim(g)
	want := api.Graph{Roots: []int{-1, 0, 1, 0}, Nodes: []api.Node{{Pointers: []int{-1, 2, 1}}, {Pointers: []int{3, 0, -1}, Floats: []uint64{9}}, {Pointers: []int{3, 2}}, {Words: []uint64{8, 8}}}}
	if !reflect.DeepEqual(trim, want) {
		t.Errorf("Trim: %v", trim)
	}
	if words, _ := graph.Words(g); words != 4+5+3+3 {
		t.Errorf("Words: %d", words)
	}
	pointed, _ := graph.Pointed(g)
	if !slices.Equal(pointed, []int{0, 2, 0, 3, 0, 2, 2}) {
		t.Errorf("Pointed: %d", pointed)
	}
	for k, want := range map[int][]int{3: {1}, 1: {2}, 6: {1, 1}, 5: {2, 0}} {
		if path, e := graph.Path(g, k); !slices.Equal(path, want) || e != api.OK {
			t.Errorf("Path to %d: %d", k, path)
		}
	}
	for _, k := range []int{0, 2, 4, 7, -1, -2, math.MaxInt, math.MinInt} {
		if path, e := graph.Path(g, k); path != nil || e != api.ErrNone {
			t.Errorf("Path to %d: %d, error %d", k, path, e)
		}
	}
}

func TestTrimIsNew(t *testing.T) {
	g := api.Graph{Roots: []int{0}, Nodes: []api.Node{{Pointers: []int{0}, Floats: []uint64{1}, Words: []uint64{2}}}}
	trim, _ := graph.Trim(g)
	trim.Roots[0], trim.Nodes[0].Pointers[0], trim.Nodes[0].Floats[0], trim.Nodes[0].Words[0] = 9, 9, 9, 9
	if !reflect.DeepEqual(g, api.Graph{Roots: []int{0}, Nodes: []api.Node{{Pointers: []int{0}, Floats: []uint64{1}, Words: []uint64{2}}}}) {
		t.Errorf("Trim shares memory: %v", g)
	}
}

func TestDifferences(t *testing.T) {
	node := api.Node{Pointers: []int{-1, 1}, Floats: []uint64{0, 1}, Words: []uint64{5}}
	g := api.Graph{Roots: []int{0, 1}, Nodes: []api.Node{node, {Words: []uint64{6}}}}
	for i, h := range []api.Graph{
		{Roots: []int{0}, Nodes: g.Nodes}, {Roots: []int{0, 1, -1}, Nodes: g.Nodes}, {Roots: []int{1, 0}, Nodes: g.Nodes}, {Roots: []int{0, 0}, Nodes: g.Nodes}, {},
		{Roots: []int{0, 1}, Nodes: []api.Node{{Pointers: []int{1, 1}, Floats: node.Floats, Words: node.Words}, g.Nodes[1]}},
		{Roots: []int{0, 1}, Nodes: []api.Node{{Pointers: node.Pointers, Floats: []uint64{1 << 63, 1}, Words: node.Words}, g.Nodes[1]}},
		{Roots: []int{0, 1}, Nodes: []api.Node{{Pointers: node.Pointers, Floats: []uint64{0}, Words: []uint64{1, 5}}, g.Nodes[1]}},
		{Roots: []int{0, 1}, Nodes: []api.Node{node, {Floats: []uint64{6}}}},
		{Roots: []int{0, 2}, Nodes: []api.Node{node, g.Nodes[1], g.Nodes[1]}},
	} {
		if same, e := graph.Same(g, h); same || e != api.OK {
			t.Errorf("graph %d is the same, error %d", i, e)
		}
	}
}

func TestEquivalence(t *testing.T) {
	r := rand.New(rand.NewSource(29))
	for range 3000 {
		g := random(r, 7)
		trim, e := graph.Trim(g)
		again, _ := graph.Trim(trim)
		if e != api.OK || !reflect.DeepEqual(trim, again) || len(trim.Roots) != len(g.Roots) {
			t.Fatalf("%v: Trim %v, again %v", g, trim, again)
		}
		for _, h := range []api.Graph{g, trim, renumbered(r, g)} {
			if same, e := graph.Same(g, h); !same || e != api.OK {
				t.Fatalf("%v and %v differ", g, h)
			}
		}
		h := random(r, 7)
		other, _ := graph.Trim(h)
		if same, _ := graph.Same(g, h); same != reflect.DeepEqual(trim, other) {
			t.Fatalf("%v and %v", g, h)
		}
		reached, _ := graph.Reach(g)
		words := 0
		for _, k := range reached {
			words += 1 + len(g.Nodes[k].Pointers) + len(g.Nodes[k].Floats) + len(g.Nodes[k].Words)
		}
		if got, _ := graph.Words(g); got != words {
			t.Fatalf("%v: %d words", g, got)
		}
		counts := make([]int, len(g.Nodes))
		lists := [][]int{g.Roots}
		for _, k := range reached {
			lists = append(lists, g.Nodes[k].Pointers)
		}
		for _, l := range lists {
			for _, k := range l {
				if k >= 0 {
					counts[k]++
				}
			}
		}
		if got, e := graph.Pointed(g); !slices.Equal(got, counts) || e != api.OK {
			t.Fatalf("%v: Pointed %d, not %d", g, got, counts)
		}
	}
}

// paths returns all paths of length n through the graph, in increasing order, with the nodes they lead to.
func paths(g api.Graph, n int) ([][]int, []int) {
	if n == 1 {
		var l [][]int
		for i := range g.Roots {
			l = append(l, []int{i})
		}
		return l, g.Roots
	}
	var l [][]int
	var ends []int
	before, nodes := paths(g, n-1)
	for i, path := range before {
		if nodes[i] < 0 {
			continue
		}
		for k, p := range g.Nodes[nodes[i]].Pointers {
			l = append(l, append(slices.Clone(path), k))
			ends = append(ends, p)
		}
	}
	return l, ends
}

func TestLeastPaths(t *testing.T) {
	r := rand.New(rand.NewSource(30))
	for range 400 {
		g := random(r, 5)
		least := map[int][]int{}
		for n := 1; n <= 6; n++ {
			l, ends := paths(g, n)
			for i, k := range ends {
				if k >= 0 && least[k] == nil {
					least[k] = l[i]
				}
			}
		}
		for k := range g.Nodes {
			path, e := graph.Path(g, k)
			if !slices.Equal(path, least[k]) || (e == api.OK) != (least[k] != nil) {
				t.Fatalf("%v: path to %d: %d, not %d", g, k, path, least[k])
			}
		}
	}
}
