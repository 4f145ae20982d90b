package ops_test

import (
	"math"
	"math/rand"
	"slices"
	"testing"

	"ullage/api"
	"ullage/float"
	"ullage/ops"
)

// used returns which of the fields A, B, I, Header, Word and Float operations of a kind have.
func used(kind int) string {
	return map[int]string{
		api.OpAlloc: "AH", api.OpLoad: "ABI", api.OpStore: "AIB", api.OpGet: "AI", api.OpSet: "AIW", api.OpGetFloat: "AI", api.OpSetFloat: "AIF", api.OpCopy: "AB", api.OpClear: "A",
		api.OpSame: "AB", api.OpShape: "A", api.OpSum: "A", api.OpOrder: "AIBW", api.OpLive: "", api.OpCollect: "", api.OpStart: "", api.OpStep: "",
	}[kind]
}

func has(kind int, field byte) bool {
	for i := range len(used(kind)) {
		if used(kind)[i] == field {
			return true
		}
	}
	return false
}

func randomInt(r *rand.Rand) int {
	return []int{0, 1, -1, 63, -64, 64, math.MaxInt, math.MinInt, int(r.Uint64())}[r.Intn(9)]
}

// random returns a valid operation.
func random(r *rand.Rand) api.Op {
	x := api.Op{Kind: 1 + r.Intn(api.OpStep)}
	if has(x.Kind, 'A') {
		x.A = randomInt(r)
	}
	if has(x.Kind, 'B') {
		x.B = randomInt(r)
	}
	if has(x.Kind, 'I') {
		x.I = randomInt(r)
	}
	if has(x.Kind, 'H') {
		x.Header = api.Header{Pointers: randomInt(r), Floats: randomInt(r), Words: randomInt(r)}
	}
	if has(x.Kind, 'W') {
		x.Word = uint64(randomInt(r))
	}
	if has(x.Kind, 'F') {
		x.Float = float.Of([]uint64{0, 1 << 63, 0xFFF0000000000001, 0x7FF8000000000000, 0x7FF0000000000000, r.Uint64()}[r.Intn(6)])
	}
	return x
}

func TestRight(t *testing.T) {
	changes := map[byte]func(x *api.Op){
		'A': func(x *api.Op) { x.A = -3 }, 'B': func(x *api.Op) { x.B = 3 }, 'I': func(x *api.Op) { x.I = 7 }, 'W': func(x *api.Op) { x.Word = 1 << 63 },
		'H': func(x *api.Op) { x.Header.Words = 1 }, 'F': func(x *api.Op) { x.Float = math.Copysign(0, -1) },
	}
	for kind := -3; kind < 25; kind++ {
		exists := kind >= 1 && kind <= api.OpStep
		if ops.Right(api.Op{Kind: kind}) != exists {
			t.Errorf("kind %d", kind)
		}
		for field, change := range changes {
			x := api.Op{Kind: kind}
			change(&x)
			if ops.Right(x) != (exists && has(kind, field)) {
				t.Errorf("kind %d with the field %c", kind, field)
			}
		}
		for _, h := range []api.Header{{Pointers: 1}, {Floats: -1}, {Words: 999}} {
			if ops.Right(api.Op{Kind: kind, Header: h}) != (kind == api.OpAlloc) {
				t.Errorf("kind %d with the header %v", kind, h)
			}
		}
		for _, f := range []float64{math.NaN(), 1, math.Inf(1)} {
			if ops.Right(api.Op{Kind: kind, Float: f}) != (kind == api.OpSetFloat) {
				t.Errorf("kind %d with the float %g", kind, f)
			}
		}
	}
	for _, kind := range []int{math.MaxInt, math.MinInt} {
		if ops.Right(api.Op{Kind: kind}) {
			t.Errorf("kind %d", kind)
		}
	}
}

func TestSame(t *testing.T) {
	x := api.Op{Kind: 1, A: 2, B: 3, I: 4, Header: api.Header{Pointers: 5, Floats: 6, Words: 7}, Word: 8, Float: float.Of(0x7FF0000000000001)}
	if !ops.Same(x, x) {
		t.Error("an operation and itself")
	}
	for i, change := range []func(x *api.Op){
		func(x *api.Op) { x.Kind++ }, func(x *api.Op) { x.A++ }, func(x *api.Op) { x.B++ }, func(x *api.Op) { x.I++ }, func(x *api.Op) { x.Header.Pointers++ }, func(x *api.Op) { x.Header.Floats++ }, func(x *api.Op) { x.Header.Words++ },
		func(x *api.Op) { x.Word++ }, func(x *api.Op) { x.Float = float.Of(0x7FF0000000000002) }, func(x *api.Op) { x.Float = 0 },
	} {
		y := x
		change(&y)
		if ops.Same(x, y) || ops.Same(y, x) {
			t.Errorf("change %d", i)
		}
	}
	if ops.Same(api.Op{}, api.Op{Float: math.Copysign(0, -1)}) || !ops.Same(api.Op{}, api.Op{}) {
		t.Error("zeros")
	}
}

func TestEncodings(t *testing.T) {
	for _, c := range []struct {
		x api.Op
		s string
	}{
		{api.Op{Kind: api.OpClear, A: 3}, "\x09\x06"},
		{api.Op{Kind: api.OpAlloc, A: 1, Header: api.Header{Pointers: 2, Floats: -1, Words: 3}}, "\x01\x02\x04\x01\x06"},
		{api.Op{Kind: api.OpLoad, A: 1, B: 2, I: 3}, "\x02\x02\x04\x06"}, {api.Op{Kind: api.OpStore, A: 1, B: 2, I: 3}, "\x03\x02\x06\x04"},
		{api.Op{Kind: api.OpGet, A: 1, I: 3}, "\x04\x02\x06"}, {api.Op{Kind: api.OpSet, A: 1, I: 3, Word: 300}, "\x05\x02\x06\xAC\x02"},
		{api.Op{Kind: api.OpGetFloat, A: 1, I: 3}, "\x06\x02\x06"}, {api.Op{Kind: api.OpSetFloat, A: 1, I: 3, Float: 1}, "\x07\x02\x06\x00\x00\x00\x00\x00\x00\xF0\x3F"},
		{api.Op{Kind: api.OpCopy, A: 1, B: 2}, "\x08\x02\x04"}, {api.Op{Kind: api.OpSame, A: 1, B: 2}, "\x0A\x02\x04"}, {api.Op{Kind: api.OpShape, A: 1}, "\x0B\x02"}, {api.Op{Kind: api.OpSum, A: 1}, "\x0C\x02"},
		{api.Op{Kind: api.OpOrder, A: 1, B: 2, I: 3, Word: 4}, "\x0D\x02\x06\x04\x04"}, {api.Op{Kind: api.OpLive}, "\x0E"}, {api.Op{Kind: api.OpCollect}, "\x0F"}, {api.Op{Kind: api.OpStart}, "\x10"}, {api.Op{Kind: api.OpStep}, "\x11"},
	} {
		if s, e := ops.Put(c.x); s != c.s || e != api.OK {
			t.Errorf("%+v: %x, error %d", c.x, s, e)
		}
		if l, e := ops.Read(c.s); e != api.OK || len(l) != 1 || !ops.Same(l[0], c.x) {
			t.Errorf("%x: %v, error %d", c.s, l, e)
		}
	}
	if s, e := ops.Put(); s != "" || e != api.OK {
		t.Error("no operations")
	}
	if l, e := ops.Read(""); len(l) != 0 || e != api.OK {
		t.Error("no bytes")
	}
}

func TestErrors(t *testing.T) {
	good := api.Op{Kind: api.OpLive}
	for _, bad := range []api.Op{{}, {Kind: 18}, {Kind: -1}, {Kind: api.OpLive, A: 1}, {Kind: api.OpGet, Float: math.Copysign(0, -1)}} {
		if s, e := ops.Put(good, bad, good); s != "" || e != api.ErrArg {
			t.Errorf("%+v: %x, error %d", bad, s, e)
		}
	}
	for s, want := range map[string]api.Errno{
		"\x00": api.ErrBad, "\x12": api.ErrBad, "\x92\x01": api.ErrBad, "\xFF\xFF\xFF\xFF\xFF\xFF\xFF\xFF\xFF\x01": api.ErrBad, "\x80\x80\x80\x80\x80\x80\x80\x80\x80\x01": api.ErrBad,
		"\x80": api.ErrShort, "\x89\x00": api.ErrForm, "\x09": api.ErrShort, "\x09\x80": api.ErrShort, "\x09\x80\x00": api.ErrForm, "\x07\x02\x06\x00\x00": api.ErrShort, "\x02\x02\x04": api.ErrShort,
		"\x05\x02\x06\xFF\xFF\xFF\xFF\xFF\xFF\xFF\xFF\xFF\x02": api.ErrForm, "\x0E\x00": api.ErrBad, "\x0E\x0E\x09": api.ErrShort, "\x00\x80": api.ErrBad, "\x01\x02\x04\x80\x00\x06": api.ErrForm,
	} {
		if l, e := ops.Read(s); l != nil || e != want {
			t.Errorf("%x: %v, error %d", s, l, e)
		}
	}
}

func TestInverse(t *testing.T) {
	r := rand.New(rand.NewSource(33))
	for range 5000 {
		l := make([]api.Op, r.Intn(6))
		for i := range l {
			l[i] = random(r)
			if !ops.Right(l[i]) {
				t.Fatalf("%+v is not valid", l[i])
			}
		}
		s, e := ops.Put(l...)
		got, e2 := ops.Read(s)
		if e != api.OK || e2 != api.OK || !slices.EqualFunc(got, l, ops.Same) {
			t.Fatalf("%+v is read as %+v, errors %d, %d", l, got, e, e2)
		}
	}
	for range 100000 {
		b := make([]byte, r.Intn(14))
		for i := range b {
			b[i] = byte(r.Intn(20))
			if r.Intn(20) == 0 {
				b[i] |= 128
			}
		}
		l, e := ops.Read(string(b))
		if e != api.OK {
			continue
		}
		if again, e := ops.Put(l...); again != string(b) || e != api.OK {
			t.Fatalf("%x is put as %x", b, again)
		}
	}
}
