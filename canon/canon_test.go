package canon_test

import (
	"math"
	"math/rand"
	"reflect"
	"slices"
	"testing"

	"ullage/api"
	"ullage/canon"
	"ullage/float"
	"ullage/graph"
	"ullage/seal"
	"ullage/wire"
)

func random(r *rand.Rand, n int) api.Graph {
	n = r.Intn(n + 1)
	g := api.Graph{Roots: make([]int, r.Intn(4))}
	for i := range g.Roots {
		g.Roots[i] = r.Intn(n+1) - 1
	}
	for range n {
		x := api.Node{Pointers: make([]int, r.Intn(4))}
		for i := range x.Pointers {
			x.Pointers[i] = r.Intn(n+1) - 1
		}
		for range r.Intn(3) {
			x.Floats = append(x.Floats, []uint64{0, 1 << 63, 0xFFF0000000000001, 5}[r.Intn(4)])
		}
		for range r.Intn(3) {
			x.Words = append(x.Words, []uint64{0, 127, 128, math.MaxUint64}[r.Intn(4)])
		}
		g.Nodes = append(g.Nodes, x)
	}
	return g
}

func TestExamples(t *testing.T) {
	if s, e := canon.Put(api.Graph{}); s != seal.Seal("\x00\x00") || e != api.OK {
		t.Errorf("the empty graph: %x, error %d", s, e)
	}
	g := api.Graph{Roots: []int{1, -1}, Nodes: []api.Node{{}, {Pointers: []int{1, -1}, Floats: []uint64{1 << 63}, Words: []uint64{300, 0}}}}
	body := "\x02\x00\x01" + "\x01" + "\x02\x00\x01" + "\x01\x00\x00\x00\x00\x00\x00\x00\x80" + "\x02\xAC\x02\x00"
	s, e := canon.Put(g)
	digest, e2 := canon.Digest(g)
	if s != seal.Seal(body) || digest != seal.Of(body) || e != api.OK || e2 != api.OK {
		t.Errorf("%x, error %d", s, e)
	}
}

func TestInvalidGraphs(t *testing.T) {
	for i, g := range []api.Graph{{Roots: []int{0}}, {Roots: []int{-2}}, {Nodes: []api.Node{{Pointers: []int{1}}}}, {Nodes: []api.Node{{Words: make([]uint64, 256)}}}} {
		s, e := canon.Put(g)
		digest, e2 := canon.Digest(g)
		if s != "" || e != api.ErrArg || digest != 0 || e2 != api.ErrArg {
			t.Errorf("graph %d: errors %d, %d", i, e, e2)
		}
	}
}

func TestInverse(t *testing.T) {
	r := rand.New(rand.NewSource(31))
	var last string
	var lastGraph api.Graph
	for range 3000 {
		g := random(r, 5)
		s, e := canon.Put(g)
		if e != api.OK {
			t.Fatal(e)
		}
		got, e := canon.Take(s)
		trim, _ := graph.Trim(g)
		same, _ := graph.Same(got, trim)
		if e != api.OK || !same || len(got.Nodes) != len(trim.Nodes) || !slices.Equal(got.Roots, trim.Roots) {
			t.Fatalf("%v is taken as %v, error %d", g, got, e)
		}
		again, e := canon.Put(got)
		if again != s || e != api.OK {
			t.Fatalf("%x is put as %x", s, again)
		}
		equivalent, _ := graph.Same(g, lastGraph)
		d1, _ := canon.Digest(g)
		d2, _ := canon.Digest(lastGraph)
		if equivalent != (s == last) || equivalent && d1 != d2 {
			t.Fatalf("%v and %v: the same encoding", g, lastGraph)
		}
		last, lastGraph = s, g
	}
}

// encoded returns the bytes of a graph as it is, not as its Trim.
func encoded(g api.Graph) string {
	w := wire.NewWriter()
	w.Num(uint64(len(g.Roots)))
	for _, n := range g.Roots {
		w.Int(n)
	}
	w.Num(uint64(len(g.Nodes)))
	for _, x := range g.Nodes {
		w.Num(uint64(len(x.Pointers)))
		for _, n := range x.Pointers {
			w.Int(n)
		}
		w.Num(uint64(len(x.Floats)))
		for _, b := range x.Floats {
			w.Float(float.Of(b))
		}
		w.Num(uint64(len(x.Words)))
		for _, n := range x.Words {
			w.Num(n)
		}
	}
	s, _ := w.Done()
	return s
}

func TestTakeRefuses(t *testing.T) {
	for _, s := range []string{"", "abc", "\x00\x00\x00"} {
		if g, e := canon.Take(s); e != api.ErrShort || !reflect.DeepEqual(g, api.Graph{}) {
			t.Errorf("%x: error %d", s, e)
		}
	}
	if _, e := canon.Take("\x00\x00\x00\x00\x00\x00"); e != api.ErrSum {
		t.Errorf("a wrong checksum: error %d", e)
	}
	for i, body := range []string{
		"", "\x00", "\x00\x00\x00", "\x01\x00", "\x80", "\x80\x00\x00", "\x00\x80\x00", "\x01\x01", "\x00\x01\x00\x00", "\x00\x01\x00\x01\x00\x00\x00\x00",
		"\xFF\xFF\xFF\xFF\xFF\xFF\xFF\xFF\xFF\x01", "\x00\xFF\xFF\xFF\xFF\xFF\xFF\xFF\xFF\xFF\x01\x00\x00", "\xFF\xFF\xFF\xFF\xFF\xFF\xFF\xFF\xFF\x02",
		encoded(api.Graph{Roots: []int{0}}), encoded(api.Graph{Roots: []int{-2}}), encoded(api.Graph{Nodes: []api.Node{{}}}), encoded(api.Graph{Roots: []int{1, 0}, Nodes: []api.Node{{}, {}}}),
		encoded(api.Graph{Roots: []int{0}, Nodes: []api.Node{{Pointers: []int{5}}}}), encoded(api.Graph{Roots: []int{0}, Nodes: []api.Node{{Words: make([]uint64, 256)}}}),
		encoded(api.Graph{Roots: []int{0}, Nodes: []api.Node{{}, {}}}), encoded(api.Graph{Roots: []int{0}, Nodes: []api.Node{{Pointers: []int{2, 1}}, {}, {}}}),
	} {
		if g, e := canon.Take(seal.Seal(body)); e != api.ErrForm || !reflect.DeepEqual(g, api.Graph{}) {
			t.Errorf("bytes %d: %v, error %d", i, g, e)
		}
	}
}

// TestRandomBytes seals random bytes: what is taken is put as the same bytes.
func TestRandomBytes(t *testing.T) {
	r := rand.New(rand.NewSource(32))
	taken := 0
	for range 200000 {
		b := make([]byte, r.Intn(9))
		for i := range b {
			b[i] = byte(r.Intn(4))
		}
		s := seal.Seal(string(b))
		g, e := canon.Take(s)
		if e == api.OK {
			taken++
			if again, e := canon.Put(g); again != s || e != api.OK {
				t.Fatalf("%x is taken as %v", s, g)
			}
		} else if e != api.ErrForm {
			t.Fatalf("%x: error %d", s, e)
		}
	}
	if taken == 0 {
		t.Error("nothing was taken")
	}
}
