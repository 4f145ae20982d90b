package walk_test

import (
	"math"
	"math/rand"
	"slices"
	"testing"

	"ullage/api"
	"ullage/header"
	"ullage/object"
	"ullage/vmem"
	"ullage/walk"
)

// adjacent returns a memory of 256 words with objects of these headers from address base on, and the address after them.
func adjacent(t *testing.T, base int, l ...api.Header) (*vmem.Memory, int) {
	t.Helper()
	m, e := vmem.New(256, 4, 64)
	if e != api.OK {
		t.Fatal("memory")
	}
	top := base
	for _, h := range l {
		m.Need(top, top+header.Size(h))
		if e := object.Make(m, top, h); e != api.OK {
			t.Fatalf("Make: error %d", e)
		}
		top += header.Size(h)
	}
	return m, top
}

func TestAll(t *testing.T) {
	h := api.Header{Pointers: 1, Words: 1}
	m, top := adjacent(t, 1, h, h)
	all, e := walk.All(m, 1, 7)
	if e != api.OK || top != 7 || !slices.Equal(all, []walk.Found{{1, h}, {4, h}}) {
		t.Errorf("the example: %v, error %d", all, e)
	}
	for _, c := range []struct {
		base, top int
		want      api.Errno
	}{
		{1, 6, api.ErrLost}, {1, 5, api.ErrLost}, {4, 6, api.ErrLost}, {1, 4, api.OK}, {4, 7, api.OK}, {4, 4, api.OK}, {200, 200, api.OK}, {math.MaxInt, math.MaxInt, api.OK},
		{0, 7, api.ErrArg}, {-1, 7, api.ErrArg}, {7, 4, api.ErrArg}, {math.MinInt, math.MaxInt, api.ErrArg}, {1, 0, api.ErrArg},
		{2, 7, api.ErrHeader}, {1, 8, api.ErrHeader}, {1, 200, api.ErrHeader}, {9, 20, api.ErrUnmapped}, {256, 257, api.ErrRange}, {300, math.MaxInt, api.ErrRange},
	} {
		all, e := walk.All(m, c.base, c.top)
		if e != c.want || e != api.OK && all != nil {
			t.Errorf("All from %d to %d: %v, error %d", c.base, c.top, all, e)
		}
		if c.want == api.OK {
			continue
		}
		if l, e := walk.Pointers(m, c.base, c.top); e != c.want || l != nil {
			t.Errorf("Pointers from %d to %d: error %d", c.base, c.top, e)
		}
		if e := walk.Whole(m, c.base, c.top, []int{999}); e != c.want {
			t.Errorf("Whole from %d to %d: error %d", c.base, c.top, e)
		}
	}
}

func TestPointersAndWhole(t *testing.T) {
	m, top := adjacent(t, 8, api.Header{Pointers: 2, Words: 1}, api.Header{Words: 2}, api.Header{Pointers: 2})
	object.SetPointer(m, 8, 0, 15)
	object.SetPointer(m, 15, 1, 8)
	object.SetPointer(m, 15, 0, 12)
	object.SetWord(m, 8, 2, 999)
	l, e := walk.Pointers(m, 8, top)
	if e != api.OK || !slices.Equal(l, []int{15, 12, 8}) {
		t.Errorf("Pointers: %d, error %d", l, e)
	}
	for _, c := range []struct {
		roots []int
		want  api.Errno
	}{
		{nil, api.OK}, {[]int{0, 8, 12, 15, 15}, api.OK}, {[]int{8, 9}, api.ErrLost}, {[]int{-1}, api.ErrLost}, {[]int{top}, api.ErrLost}, {[]int{math.MaxInt}, api.ErrLost},
	} {
		if e := walk.Whole(m, 8, top, c.roots); e != c.want {
			t.Errorf("Whole with the roots %d: error %d", c.roots, e)
		}
	}
	if e := walk.Whole(m, 12, top, nil); e != api.ErrLost {
		t.Errorf("a pointer to an object before base: error %d", e)
	}
	object.SetPointer(m, 15, 0, 13)
	if e := walk.Whole(m, 8, top, nil); e != api.ErrLost {
		t.Errorf("a pointer into an object: error %d", e)
	}
	m.Store(9, 1<<31)
	if l, e := walk.Pointers(m, 8, top); e != api.ErrLost || l != nil {
		t.Errorf("a word that is no pointer: error %d", e)
	}
}

// TestPointerThatIsNotMapped has a pointer on a page that was unmapped.
func TestPointerThatIsNotMapped(t *testing.T) {
	m, top := adjacent(t, 15, api.Header{Pointers: 1})
	m.Unmap(4)
	if _, e := walk.All(m, 15, top); e != api.OK {
		t.Errorf("All: error %d", e)
	}
	if _, e := walk.Pointers(m, 15, top); e != api.ErrUnmapped {
		t.Errorf("Pointers: error %d", e)
	}
	if e := walk.Whole(m, 15, top, nil); e != api.ErrUnmapped {
		t.Errorf("Whole: error %d", e)
	}
}

func TestSizesAddUp(t *testing.T) {
	r := rand.New(rand.NewSource(23))
	for range 200 {
		var l []api.Header
		for range r.Intn(15) {
			l = append(l, api.Header{Pointers: r.Intn(5), Floats: r.Intn(5), Words: r.Intn(5)})
		}
		base := 1 + r.Intn(10)
		m, top := adjacent(t, base, l...)
		all, e := walk.All(m, base, top)
		if e != api.OK || len(all) != len(l) {
			t.Fatalf("%d objects, error %d", len(all), e)
		}
		at := base
		for i, o := range all {
			if o.At != at || o.Header != l[i] {
				t.Fatalf("object %d: %v", i, o)
			}
			at += header.Size(o.Header)
		}
		if at != top {
			t.Fatalf("sizes add up to %d, not %d", at-base, top-base)
		}
	}
}

func TestNoMemory(t *testing.T) {
	var m *vmem.Memory
	if l, e := walk.All(m, 1, 2); l != nil || e != api.ErrNil {
		t.Error("All")
	}
	if l, e := walk.Pointers(m, 1, 2); l != nil || e != api.ErrNil || walk.Whole(m, 1, 2, nil) != api.ErrNil {
		t.Error("Pointers and Whole")
	}
}
