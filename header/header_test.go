package header_test

import (
	"math"
	"math/rand"
	"testing"

	"ullage/api"
	"ullage/header"
)

func invalid() []api.Header {
	return []api.Header{
		{Pointers: -1}, {Floats: -1}, {Words: -1}, {Pointers: 256}, {Floats: 256}, {Words: 256}, {Pointers: 255, Words: 1}, {Pointers: 86, Floats: 85, Words: 85},
		{Pointers: 300, Floats: -100}, {Pointers: math.MaxInt, Floats: math.MaxInt, Words: 2}, {Pointers: math.MinInt, Floats: math.MinInt}, {Pointers: math.MaxInt, Floats: math.MinInt, Words: 1},
	}
}

func TestExample(t *testing.T) {
	h := api.Header{Pointers: 1, Words: 2}
	w, e := header.Put(h)
	if w != 0x5AFDFFFEA5020001 || e != api.OK || header.Size(h) != 4 {
		t.Errorf("%x, error %d, size %d", w, e, header.Size(h))
	}
}

func TestInvalid(t *testing.T) {
	for _, h := range invalid() {
		w, e := header.Put(h)
		if header.Check(h) != api.ErrSize || header.Size(h) != 0 || w != 0 || e != api.ErrSize {
			t.Errorf("%v", h)
		}
		for k := -1; k < 5; k++ {
			if header.Kind(h, k) != header.None || header.Count(h, k) != 0 || header.First(h, k) != 0 {
				t.Errorf("%v: kind %d", h, k)
			}
		}
	}
}

func TestFields(t *testing.T) {
	if header.None != 0 || header.Pointer != 1 || header.Float != 2 || header.Word != 3 {
		t.Error("numbers of kinds")
	}
	for _, h := range []api.Header{{}, {Pointers: 255}, {Floats: 255}, {Words: 255}, {Pointers: 85, Floats: 85, Words: 85}, {Pointers: 1, Floats: 2, Words: 3}, {Pointers: 2, Words: 1}} {
		n := h.Pointers + h.Floats + h.Words
		if header.Check(h) != api.OK || header.Size(h) != n+1 {
			t.Errorf("%v: size %d", h, header.Size(h))
		}
		for i := -2; i < n+3; i++ {
			want := header.None
			switch {
			case i < 0 || i >= n:
			case i < h.Pointers:
				want = header.Pointer
			case i < h.Pointers+h.Floats:
				want = header.Float
			default:
				want = header.Word
			}
			if got := header.Kind(h, i); got != want {
				t.Errorf("%v: field %d is of kind %d", h, i, got)
			}
		}
		for _, i := range []int{math.MaxInt, math.MinInt} {
			if header.Kind(h, i) != header.None || header.Count(h, i) != 0 || header.First(h, i) != 0 {
				t.Errorf("%v: %d", h, i)
			}
		}
		for kind, want := range map[int][2]int{
			header.None: {}, -1: {}, 4: {}, header.Pointer: {h.Pointers, 0}, header.Float: {h.Floats, h.Pointers}, header.Word: {h.Words, h.Pointers + h.Floats},
		} {
			if got := [2]int{header.Count(h, kind), header.First(h, kind)}; got != want {
				t.Errorf("%v: kind %d: %v", h, kind, got)
			}
		}
		if header.Count(h, header.Pointer)+header.Count(h, header.Float)+header.Count(h, header.Word)+1 != header.Size(h) {
			t.Errorf("%v: counts", h)
		}
	}
}

func TestTakeInvertsPut(t *testing.T) {
	for p := range 256 {
		for f := 0; p+f < 256; f += 3 {
			for w := 0; p+f+w < 256; w += 5 {
				h := api.Header{Pointers: p, Floats: f, Words: w}
				x, e := header.Put(h)
				n := uint64(p) + uint64(f)<<8 + uint64(w)<<16 + 0xA5<<24
				if e != api.OK || x != n+1<<32*(1<<32-1-n) {
					t.Fatalf("%v is put as %x", h, x)
				}
				if got, e := header.Take(x); got != h || e != api.OK {
					t.Fatalf("%x is taken as %v", x, got)
				}
			}
		}
	}
}

func TestTakeRefuses(t *testing.T) {
	word := func(n uint64) uint64 { return n + 1<<32*(1<<32-1-n) }
	for _, w := range []uint64{0, 1, math.MaxUint64, 0xA5020001, word(0xA4020001), word(0xA5808080), word(0xA5FFFFFF), word(0xA5020001) ^ 1, word(0xA5020001) ^ 1<<63, word(0x00020001)} {
		if h, e := header.Take(w); h != (api.Header{}) || e != api.ErrHeader {
			t.Errorf("%x is taken as %v, error %d", w, h, e)
		}
	}
	r := rand.New(rand.NewSource(19))
	for range 200000 {
		w := word(0xA5<<24 | uint64(r.Intn(1<<24)))
		if r.Intn(2) == 0 {
			w ^= 1 << uint(r.Intn(64))
		}
		h, e := header.Take(w)
		again, e2 := header.Put(h)
		if e == api.OK && (e2 != api.OK || again != w) || e != api.OK && (e != api.ErrHeader || h != api.Header{}) {
			t.Fatalf("%x: %v, error %d", w, h, e)
		}
	}
}
