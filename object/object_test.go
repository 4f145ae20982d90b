package object_test

import (
	"math"
	"math/rand"
	"slices"
	"testing"

	"ullage/api"
	"ullage/float"
	"ullage/header"
	"ullage/object"
	"ullage/vmem"
)

// memory returns a memory of 64 words with pages of 4, of which the pages from 2 to 11 are mapped and full of 7s.
func memory(t *testing.T) *vmem.Memory {
	t.Helper()
	m, e := vmem.New(64, 4, 16)
	if e != api.OK || m.Need(8, 48) != api.OK {
		t.Fatal("memory")
	}
	for a := 8; a < 48; a++ {
		m.Store(a, 7)
	}
	return m
}

func contents(m *vmem.Memory) []uint64 {
	var l []uint64
	for a := range m.Words() {
		w, e := m.Load(a)
		l = append(l, w, uint64(e))
	}
	return l
}

var shape = api.Header{Pointers: 2, Floats: 2, Words: 1}

func made(t *testing.T, a int) *vmem.Memory {
	t.Helper()
	m := memory(t)
	if e := object.Make(m, a, shape); e != api.OK {
		t.Fatalf("Make: error %d", e)
	}
	return m
}

func TestMake(t *testing.T) {
	m := made(t, 10)
	first, _ := header.Put(shape)
	for a := 8; a < 48; a++ {
		want := uint64(7)
		if a >= 10 && a < 16 {
			want = 0
		}
		if a == 10 {
			want = first
		}
		if w, _ := m.Load(a); w != want {
			t.Errorf("word %d: %x", a, w)
		}
	}
	for _, c := range []struct {
		a    int
		h    api.Header
		want api.Errno
	}{
		{0, api.Header{Words: 999}, api.ErrArg}, {-1, shape, api.ErrArg}, {math.MinInt, shape, api.ErrArg},
		{10, api.Header{Words: 256}, api.ErrSize}, {99, api.Header{Floats: -1}, api.ErrSize},
		{4, shape, api.ErrUnmapped}, {43, shape, api.ErrUnmapped}, {61, shape, api.ErrUnmapped}, {64, shape, api.ErrRange}, {math.MaxInt, shape, api.ErrRange},
	} {
		before := contents(m)
		if e := object.Make(m, c.a, c.h); e != c.want || !slices.Equal(contents(m), before) {
			t.Errorf("Make at %d: error %d", c.a, e)
		}
	}
	m.Need(60, 64)
	before := contents(m)
	if e := object.Make(m, 60, shape); e != api.ErrRange || !slices.Equal(contents(m), before) {
		t.Errorf("Make beyond the memory: error %d", e)
	}
}

func TestRead(t *testing.T) {
	m := made(t, 10)
	for a, want := range map[int]api.Errno{10: api.OK, 0: api.ErrNull, -1: api.ErrArg, math.MinInt: api.ErrArg, 11: api.ErrHeader, 8: api.ErrHeader, 3: api.ErrUnmapped, 64: api.ErrRange, math.MaxInt: api.ErrRange} {
		h, e := object.Read(m, a)
		if e != want || e == api.OK && h != shape || e != api.OK && h != (api.Header{}) {
			t.Errorf("Read(%d): %v, error %d", a, h, e)
		}
	}
}

func TestFieldErrors(t *testing.T) {
	m := made(t, 42) // the last fields, 46 and 47, are on a mapped page
	object.Make(m, 30, api.Header{Pointers: 1, Words: 1})
	for _, c := range []struct {
		a, i                 int
		pointer, float, word api.Errno
	}{
		{0, 99, api.ErrNull, api.ErrNull, api.ErrNull}, {-4, 0, api.ErrArg, api.ErrArg, api.ErrArg}, {3, 0, api.ErrUnmapped, api.ErrUnmapped, api.ErrUnmapped}, {64, 0, api.ErrRange, api.ErrRange, api.ErrRange}, {9, 0, api.ErrHeader, api.ErrHeader, api.ErrHeader},
		{42, -1, api.ErrField, api.ErrField, api.ErrField}, {42, 5, api.ErrField, api.ErrField, api.ErrField}, {42, math.MaxInt, api.ErrField, api.ErrField, api.ErrField}, {42, math.MinInt, api.ErrField, api.ErrField, api.ErrField},
		{42, 0, api.OK, api.ErrKind, api.ErrKind}, {42, 1, api.OK, api.ErrKind, api.ErrKind}, {42, 2, api.ErrKind, api.OK, api.ErrKind}, {42, 3, api.ErrKind, api.OK, api.ErrKind}, {42, 4, api.ErrKind, api.ErrKind, api.OK},
	} {
		before := contents(m)
		p, e1 := object.Pointer(m, c.a, c.i)
		f, e2 := object.Float(m, c.a, c.i)
		w, e3 := object.Word(m, c.a, c.i)
		if e1 != c.pointer || e2 != c.float || e3 != c.word || p != 0 || float.Bits(f) != 0 || w != 0 {
			t.Errorf("field %d at %d: errors %d, %d, %d", c.i, c.a, e1, e2, e3)
		}
		e1, e2, e3 = object.SetPointer(m, c.a, c.i, 0), object.SetFloat(m, c.a, c.i, 0), object.SetWord(m, c.a, c.i, 0)
		if e1 != c.pointer || e2 != c.float || e3 != c.word || !slices.Equal(contents(m), before) {
			t.Errorf("setting field %d at %d: errors %d, %d, %d", c.i, c.a, e1, e2, e3)
		}
	}
}

// TestFieldsThatAreNotMapped has headers whose fields lie on a page that is not mapped.
func TestFieldsThatAreNotMapped(t *testing.T) {
	for i, h := range []api.Header{{Pointers: 1}, {Floats: 1}, {Words: 1}} {
		m := memory(t)
		w, _ := header.Put(h)
		m.Store(47, w)
		var got, set api.Errno
		var p int
		var f float64
		var x uint64
		switch i {
		case 0:
			p, got = object.Pointer(m, 47, 0)
			set = object.SetPointer(m, 47, 0, 5)
			if e := object.SetPointer(m, 47, 0, -1); e != api.ErrArg {
				t.Errorf("ErrArg comes first: error %d", e)
			}
		case 1:
			f, got = object.Float(m, 47, 0)
			set = object.SetFloat(m, 47, 0, 5)
		case 2:
			x, got = object.Word(m, 47, 0)
			set = object.SetWord(m, 47, 0, 5)
		}
		if got != api.ErrUnmapped || set != api.ErrUnmapped || p != 0 || float.Bits(f) != 0 || x != 0 {
			t.Errorf("%v: errors %d, %d", h, got, set)
		}
	}
}

func TestPointers(t *testing.T) {
	m := made(t, 10)
	for _, p := range []int{-1, 1 << 31, math.MaxInt, math.MinInt} {
		if e := object.SetPointer(m, 10, 1, p); e != api.ErrArg {
			t.Errorf("SetPointer to %d: error %d", p, e)
		}
		if e := object.SetPointer(m, 10, 4, p); e != api.ErrKind {
			t.Errorf("SetPointer of a word: error %d", e)
		}
	}
	for _, p := range []int{1<<31 - 1, 1, 0} {
		e := object.SetPointer(m, 10, 1, p)
		if got, e2 := object.Pointer(m, 10, 1); e != api.OK || e2 != api.OK || got != p {
			t.Errorf("pointer %d: %d", p, got)
		}
	}
	for _, w := range []uint64{1 << 31, 1 << 63, math.MaxUint64} {
		m.Store(12, w)
		if p, e := object.Pointer(m, 10, 1); p != 0 || e != api.ErrLost {
			t.Errorf("the word %x: %d, error %d", w, p, e)
		}
	}
}

func TestValues(t *testing.T) {
	m := made(t, 10)
	r := rand.New(rand.NewSource(20))
	for range 500 {
		l := [5]uint64{uint64(r.Int31()), uint64(r.Int31()), r.Uint64(), r.Uint64() | 0x7FF<<52, r.Uint64()}
		for _, i := range r.Perm(5) {
			before := contents(m)
			switch {
			case i < 2:
				object.SetPointer(m, 10, i, int(l[i]))
			case i < 4:
				object.SetFloat(m, 10, i, float.Of(l[i]))
			default:
				object.SetWord(m, 10, i, l[i])
			}
			before[2*(11+i)] = l[i]
			if !slices.Equal(contents(m), before) {
				t.Fatalf("setting field %d changes another word", i)
			}
		}
		p, _ := object.Pointer(m, 10, 0)
		f, _ := object.Float(m, 10, 2)
		g, _ := object.Float(m, 10, 3)
		w, _ := object.Word(m, 10, 4)
		if uint64(p) != l[0] || float.Bits(f) != l[2] || float.Bits(g) != l[3] || w != l[4] {
			t.Fatal("a value is not read unchanged")
		}
	}
}

func TestCopy(t *testing.T) {
	for _, to := range []int{8, 9, 20, 21, 22, 25, 26, 32, 42} {
		m := made(t, 20)
		for i := 21; i < 26; i++ {
			m.Store(i, uint64(i))
		}
		want := contents(m)
		copy(want[2*to:2*to+12], slices.Clone(want[40:52]))
		if e := object.Copy(m, 20, to); e != api.OK || !slices.Equal(contents(m), want) {
			t.Errorf("Copy to %d: error %d", to, e)
		}
	}
	m := made(t, 20)
	w, _ := header.Put(shape)
	m.Store(45, w)
	for _, c := range []struct {
		from, to int
		want     api.Errno
	}{
		{0, 0, api.ErrNull}, {-1, 30, api.ErrArg}, {21, 0, api.ErrHeader}, {3, 30, api.ErrUnmapped}, {64, 30, api.ErrRange},
		{20, 0, api.ErrArg}, {20, -1, api.ErrArg}, {45, 0, api.ErrArg}, {45, 64, api.ErrUnmapped},
		{20, 43, api.ErrUnmapped}, {20, 6, api.ErrUnmapped}, {20, 64, api.ErrRange}, {20, math.MaxInt, api.ErrRange},
	} {
		before := contents(m)
		if e := object.Copy(m, c.from, c.to); e != c.want || !slices.Equal(contents(m), before) {
			t.Errorf("Copy from %d to %d: error %d", c.from, c.to, e)
		}
	}
}

func TestNoMemory(t *testing.T) {
	var m *vmem.Memory
	_, e1 := object.Read(m, 1)
	_, e2 := object.Word(m, 1, 0)
	if e1 != api.ErrNil || e2 != api.ErrNil || object.Make(m, 1, shape) != api.ErrNil || object.SetWord(m, 1, 0, 0) != api.ErrNil || object.Copy(m, 1, 2) != api.ErrNil {
		t.Error("errors")
	}
}
