package script_test

import (
	"math"
	"math/rand"
	"slices"
	"strings"
	"testing"

	"ullage/api"
	"ullage/float"
	"ullage/ops"
	"ullage/script"
)

func lines() map[string]api.Op {
	return map[string]api.Op{
		"alloc 1 2 -3 4":                        {Kind: api.OpAlloc, A: 1, Header: api.Header{Pointers: 2, Floats: -3, Words: 4}},
		"load 1 2 3":                            {Kind: api.OpLoad, A: 1, B: 2, I: 3},
		"store 1 3 2":                           {Kind: api.OpStore, A: 1, B: 2, I: 3},
		"get -1 3":                              {Kind: api.OpGet, A: -1, I: 3},
		"set 1 3 ff":                            {Kind: api.OpSet, A: 1, I: 3, Word: 255},
		"getf 1 3":                              {Kind: api.OpGetFloat, A: 1, I: 3},
		"setf 0 1 -0p0":                         {Kind: api.OpSetFloat, I: 1, Float: math.Copysign(0, -1)},
		"setf 0 1 -inf":                         {Kind: api.OpSetFloat, I: 1, Float: math.Inf(-1)},
		"setf 0 1 nan":                          {Kind: api.OpSetFloat, I: 1, Float: float.Of(0x7FF8000000000000)},
		"copy 1 2":                              {Kind: api.OpCopy, A: 1, B: 2},
		"clear 1":                               {Kind: api.OpClear, A: 1},
		"same 1 2":                              {Kind: api.OpSame, A: 1, B: 2},
		"shape 1":                               {Kind: api.OpShape, A: 1},
		"sum 1":                                 {Kind: api.OpSum, A: 1},
		"order 1 3 2 255":                       {Kind: api.OpOrder, A: 1, B: 2, I: 3, Word: 255},
		"live":                                  {Kind: api.OpLive},
		"collect":                               {Kind: api.OpCollect},
		"start":                                 {Kind: api.OpStart},
		"step":                                  {Kind: api.OpStep},
		"order 0 0 0 " + "18446744073709551615": {Kind: api.OpOrder, Word: math.MaxUint64},
		"set 0 -9223372036854775808 ffffffffffffffff": {Kind: api.OpSet, I: math.MinInt, Word: math.MaxUint64},
	}
}

func TestLines(t *testing.T) {
	for s, x := range lines() {
		if line, e := script.Line(x); line != s || e != api.OK {
			t.Errorf("%+v: %q, error %d", x, line, e)
		}
		for _, spaced := range []string{s, " \t" + strings.ReplaceAll(s, " ", "\t ") + "  "} {
			if got, e := script.Parse(spaced); !ops.Same(got, x) || e != api.OK {
				t.Errorf("%q: %+v, error %d", spaced, got, e)
			}
		}
	}
	if line, e := script.Line(api.Op{Kind: api.OpSetFloat, Float: float.Of(0xFFF0000000000001)}); line != "setf 0 0 nan" || e != api.OK {
		t.Errorf("a NaN: %q", line)
	}
	for _, x := range []api.Op{{}, {Kind: 18}, {Kind: -1}, {Kind: api.OpLive, A: 1}, {Kind: api.OpGet, Word: 1}} {
		line, e := script.Line(x)
		text, e2 := script.Put(api.Op{Kind: api.OpLive}, x)
		if line != "" || e != api.ErrArg || text != "" || e2 != api.ErrArg {
			t.Errorf("%+v: errors %d, %d", x, e, e2)
		}
	}
}

func TestParseRefuses(t *testing.T) {
	for s, want := range map[string]api.Errno{
		"": api.ErrLine, " \t": api.ErrLine, "get 0": api.ErrLine, "get 0 1 2": api.ErrLine, "gets 0 1": api.ErrLine, "Get 0 1": api.ErrLine, "none": api.ErrLine, "# get": api.ErrLine, "live 0": api.ErrLine, "alloc 0 0 0": api.ErrLine,
		"get x": api.ErrLine, "get 0\n1": api.ErrLine, "get 0 1\n": api.ErrForm, "get 0 01": api.ErrForm, "get -0 1": api.ErrForm, "get x 99999999999999999999": api.ErrForm, "get 99999999999999999999 x": api.ErrOver,
		"set 0 0 FF": api.ErrForm, "set 0 0 10000000000000000": api.ErrOver, "set 0 0 -1": api.ErrForm, "set x 0 10000000000000000": api.ErrForm,
		"order 0 0 0 -1": api.ErrForm, "order 0 0 0 ff": api.ErrForm, "order 0 0 0 18446744073709551616": api.ErrOver,
		"setf 0 0 2p0": api.ErrForm, "setf 0 0 1.5": api.ErrForm, "setf 0 0 -nan": api.ErrForm, "setf 9223372036854775808 0 2p0": api.ErrOver,
		"alloc 0 1 2 9223372036854775808": api.ErrOver, "alloc 0 1 x 9223372036854775808": api.ErrForm,
	} {
		if x, e := script.Parse(s); e != want || !ops.Same(x, api.Op{}) {
			t.Errorf("%q: %+v, error %d", s, x, e)
		}
	}
}

func TestRead(t *testing.T) {
	l, n, e := script.Read("# a script\nget 0 1\n\n \t\n  #x\nstep")
	if n != 0 || e != api.OK || !slices.EqualFunc(l, []api.Op{{Kind: api.OpGet, I: 1}, {Kind: api.OpStep}}, ops.Same) {
		t.Errorf("%+v, line %d, error %d", l, n, e)
	}
	for s, want := range map[string]struct {
		n int
		e api.Errno
	}{
		"": {0, api.OK}, "\n\n": {0, api.OK}, "#": {0, api.OK}, "step\n#\n\nget 0": {4, api.ErrLine}, "x": {1, api.ErrLine}, "step\nget 0 x\nget": {2, api.ErrForm}, "\nset 0 0 10000000000000000": {2, api.ErrOver}, "step #": {1, api.ErrLine},
	} {
		l, n, e := script.Read(s)
		if n != want.n || e != want.e || l != nil {
			t.Errorf("%q: line %d, error %d", s, n, e)
		}
	}
}

func TestInverse(t *testing.T) {
	r := rand.New(rand.NewSource(34))
	var all []api.Op
	for _, x := range lines() {
		all = append(all, x)
	}
	for range 500 {
		l := make([]api.Op, r.Intn(9))
		for i := range l {
			l[i] = all[r.Intn(len(all))]
			if l[i].Kind == api.OpSetFloat {
				l[i].Float = float.Of(r.Uint64())
			}
		}
		text, e := script.Put(l...)
		got, n, e2 := script.Read(text)
		for i := range l {
			l[i].Float = float.Canon(l[i].Float)
		}
		if e != api.OK || n != 0 || e2 != api.OK || !slices.EqualFunc(got, l, ops.Same) || strings.Count(text, "\n") != len(l) {
			t.Fatalf("%q: %+v, error %d", text, got, e2)
		}
	}
	if text, e := script.Put(); text != "" || e != api.OK {
		t.Error("no operations")
	}
}
