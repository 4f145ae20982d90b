package mark_test

import (
	"math"
	"math/rand"
	"testing"

	"ullage/api"
	"ullage/extent"
	"ullage/header"
	"ullage/mark"
	"ullage/object"
	"ullage/vmem"
)

const words = 1024

func memory(t *testing.T) *vmem.Memory {
	t.Helper()
	m, e := vmem.New(words, 8, 128)
	if e != api.OK || m.Need(8, words) != api.OK {
		t.Fatal("memory")
	}
	return m
}

func extents(t *testing.T, n int) *extent.Map {
	t.Helper()
	x, e := extent.New(n)
	if e != api.OK {
		t.Fatal("extent map")
	}
	return x
}

// object at a with pointers to the objects p.
func put(t *testing.T, m *vmem.Memory, a int, p ...int) {
	t.Helper()
	if e := object.Make(m, a, api.Header{Pointers: len(p), Words: 1}); e != api.OK {
		t.Fatalf("Make at %d: error %d", a, e)
	}
	for i, to := range p {
		object.SetPointer(m, a, i, to)
	}
}

func TestNothing(t *testing.T) {
	m, out := memory(t), extents(t, words)
	out.Add(5, 5)
	for _, roots := range [][]int{nil, {0}, {0, 0, 0}} {
		s, e := mark.Run(m, roots, out, 1)
		if s != (mark.Stats{Rounds: 1}) || e != api.OK || out.Objects() != 0 {
			t.Errorf("%v, error %d", s, e)
		}
	}
}

func TestArguments(t *testing.T) {
	m, out := memory(t), extents(t, words)
	out.Add(5, 5)
	if s, e := mark.Run(m, []int{-1}, nil, 0); s != (mark.Stats{}) || e != api.ErrNil {
		t.Errorf("no map: error %d", e)
	}
	for _, room := range []int{0, -1, api.MaxStack + 1, math.MaxInt, math.MinInt} {
		if s, e := mark.Run(m, []int{-1}, out, room); s != (mark.Stats{}) || e != api.ErrArg || out.Objects() != 1 {
			t.Errorf("room %d: error %d", room, e)
		}
	}
	var none *vmem.Memory
	if _, e := mark.Run(none, []int{5}, out, 1); e != api.ErrLost || out.Objects() != 0 {
		t.Errorf("no memory: error %d", e)
	}
	if s, e := mark.Run(none, []int{0}, out, 1); s != (mark.Stats{Rounds: 1}) || e != api.OK {
		t.Errorf("no memory is needed: error %d", e)
	}
}

func TestMarking(t *testing.T) {
	m, out := memory(t), extents(t, words)
	put(t, m, 10, 20, 0, 10)
	put(t, m, 20, 30)
	put(t, m, 30, 10, 20)
	put(t, m, 40, 10)
	put(t, m, 50)
	s, e := mark.Run(m, []int{0, 10, 50, 10}, out, words)
	if e != api.OK || s != (mark.Stats{Objects: 4, Words: 5 + 3 + 4 + 2, Rounds: 1, Visits: 4}) {
		t.Errorf("%v, error %d", s, e)
	}
	for start, size := range out.All() {
		if want := map[int]int{10: 5, 20: 3, 30: 4, 50: 2}[start]; size != want {
			t.Errorf("object at %d of size %d", start, size)
		}
	}
}

func TestUnsound(t *testing.T) {
	for name, c := range map[string]struct {
		root  int
		spoil func(m *vmem.Memory)
	}{
		"negative root":            {-1, func(m *vmem.Memory) {}},
		"least root":               {math.MinInt, func(m *vmem.Memory) {}},
		"root without object":      {11, func(m *vmem.Memory) {}},
		"root that is not mapped":  {3, func(m *vmem.Memory) {}},
		"root beyond the memory":   {math.MaxInt, func(m *vmem.Memory) {}},
		"pointer without object":   {10, func(m *vmem.Memory) { m.Store(21, 22) }},
		"word that is no pointer":  {10, func(m *vmem.Memory) { m.Store(21, 1<<31) }},
		"pointer that is unmapped": {31, func(m *vmem.Memory) { put(t, m, 31, 0); m.Unmap(4) }},
		"object within an object":  {10, func(m *vmem.Memory) { put(t, m, 20, 10, 22); w, _ := header.Put(api.Header{}); m.Store(22, w) }},
		"object across a start":    {10, func(m *vmem.Memory) { put(t, m, 20, 10, 19); w, _ := header.Put(api.Header{Words: 1}); m.Store(19, w) }},
		"object beyond the memory": {10, func(m *vmem.Memory) {
			w, _ := header.Put(api.Header{Words: 9})
			m.Store(words-9, w)
			m.Store(21, words-9)
		}},
		"header that is not there":  {10, func(m *vmem.Memory) { m.Store(20, 7) }},
		"pointer to an odd address": {10, func(m *vmem.Memory) { m.Store(21, 1<<31-1) }},
	} {
		for _, room := range []int{1, 50} {
			m, out := memory(t), extents(t, words)
			put(t, m, 10, 20, 0)
			put(t, m, 20, 10)
			c.spoil(m)
			s, e := mark.Run(m, []int{c.root}, out, room)
			if s != (mark.Stats{}) || e != api.ErrLost || out.Objects() != 0 {
				t.Errorf("%s: %v, error %d, %d objects", name, s, e, out.Objects())
			}
		}
	}
	m := memory(t)
	put(t, m, 10, 0, 0)
	out := extents(t, 13)
	if _, e := mark.Run(m, []int{10}, out, 1); e != api.ErrLost || out.Objects() != 0 {
		t.Errorf("an object beyond the map: error %d", e)
	}
	out = extents(t, 14)
	if _, e := mark.Run(m, []int{10}, out, 1); e != api.OK || out.Objects() != 1 {
		t.Errorf("an object at the end of the map: error %d", e)
	}
}

// TestWordsThatAreNotMapped has a reachable object of which only words are on a page that is not mapped: it is sound.
func TestWordsThatAreNotMapped(t *testing.T) {
	m, out := memory(t), extents(t, words)
	object.Make(m, 30, api.Header{Pointers: 1, Words: 5})
	m.Unmap(4)
	if s, e := mark.Run(m, []int{30}, out, 1); e != api.OK || s.Words != 7 {
		t.Errorf("%v, error %d", s, e)
	}
}

// TestSmallStack marks an object with many pointers to objects that have pointers, with stacks of all sizes.
func TestSmallStack(t *testing.T) {
	m, out := memory(t), extents(t, words)
	var children []int
	for a := 100; a < 600; a += 20 {
		put(t, m, a, a+5, a+10, 10)
		put(t, m, a+5, a+10)
		put(t, m, a+10)
		children = append(children, a)
	}
	put(t, m, 10, children...)
	n := 1 + 3*len(children)
	for room := 1; room < 90; room++ {
		s, e := mark.Run(m, []int{10}, out, room)
		if e != api.OK || s.Objects != n || out.Objects() != n || s.Visits < n || s.Visits > n*s.Rounds {
			t.Errorf("room %d: %v, error %d", room, s, e)
		}
	}
}

// TestRandomGraphs compares marked objects with what a search finds, for several rooms.
func TestRandomGraphs(t *testing.T) {
	r := rand.New(rand.NewSource(25))
	for range 400 {
		m := memory(t)
		var starts []int
		sizes, pointers := map[int]int{}, map[int][]int{}
		for at := 8 + r.Intn(5); ; {
			n := r.Intn(6)
			if at+n+2 > words || len(starts) > 10+r.Intn(60) {
				break
			}
			put(t, m, at, make([]int, n)...)
			starts, sizes[at], pointers[at] = append(starts, at), n+2, make([]int, n)
			at += n + 2 + r.Intn(3)
		}
		some := func() int {
			if r.Intn(4) == 0 {
				return 0
			}
			return starts[r.Intn(len(starts))]
		}
		for _, a := range starts {
			for i := range pointers[a] {
				pointers[a][i] = some()
				object.SetPointer(m, a, i, pointers[a][i])
			}
		}
		roots := []int{some(), some()}
		reached := map[int]bool{0: true}
		total := 0
		var visit func(a int)
		visit = func(a int) {
			if reached[a] {
				return
			}
			reached[a] = true
			total += sizes[a]
			for _, p := range pointers[a] {
				visit(p)
			}
		}
		for _, a := range roots {
			visit(a)
		}
		for _, room := range []int{1, 2, 5, words} {
			out := extents(t, words)
			s, e := mark.Run(m, roots, out, room)
			if e != api.OK || s.Objects != len(reached)-1 || s.Words != total || out.Objects() != s.Objects {
				t.Fatalf("room %d: %v, error %d, not %d objects", room, s, e, len(reached)-1)
			}
			for start, size := range out.All() {
				if !reached[start] || sizes[start] != size {
					t.Fatalf("object at %d of size %d", start, size)
				}
			}
			if s.Rounds < 1 || s.Rounds > max(1, s.Objects+1) || room == words && s.Rounds != 1 || s.Visits < s.Objects || s.Visits > s.Objects*s.Rounds {
				t.Fatalf("room %d: %v", room, s)
			}
		}
	}
}
