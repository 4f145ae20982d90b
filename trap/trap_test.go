package trap_test

import (
	"errors"
	"math"
	"math/rand"
	"runtime"
	"slices"
	"testing"

	"ullage/api"
	"ullage/trap"
)

// memory is a space of words; address frozen can be loaded, but not stored.
type memory struct {
	words  []uint64
	frozen int
}

func newMemory(n int) *memory {
	m := &memory{words: make([]uint64, n), frozen: -1}
	for i := range m.words {
		m.words[i] = uint64(100 + i)
	}
	return m
}

func (m *memory) Load(a int) (uint64, api.Errno) {
	if a < 0 || a >= len(m.words) {
		return 0, api.ErrRange
	}
	return m.words[a], api.OK
}

func (m *memory) Store(a int, w uint64) api.Errno {
	if a < 0 || a >= len(m.words) {
		return api.ErrRange
	}
	if a == m.frozen {
		return api.ErrUnmapped
	}
	m.words[a] = w
	return api.OK
}

func (m *memory) is(t *testing.T, want ...uint64) {
	t.Helper()
	if !slices.Equal(m.words, want) {
		t.Errorf("the memory is %d, not %d", m.words, want)
	}
}

// caught returns the value with which f panics.
func caught(f func()) (x any) {
	defer func() { x = recover() }()
	f()
	return nil
}

func TestRunReturns(t *testing.T) {
	m := newMemory(3)
	var kept *trap.Work
	fault := trap.Run(m, func(w *trap.Work) {
		kept = w
		w.Store(1, 7)
		if w.Load(1) != 7 || w.Load(0) != 100 || w.Stores() != 1 {
			t.Error("Load and Stores")
		}
		w.Store(1, 8)
	})
	if fault != (api.Fault{}) || kept.Stores() != 2 {
		t.Errorf("fault %v, %d stores", fault, kept.Stores())
	}
	m.is(t, 100, 8, 102)
}

func TestRunIsStopped(t *testing.T) {
	for name, c := range map[string]struct {
		f    func(w *trap.Work)
		want api.Fault
	}{
		"load":           {func(w *trap.Work) { w.Load(-3) }, api.Fault{Err: api.ErrRange, At: -3}},
		"store":          {func(w *trap.Work) { w.Store(3, 1) }, api.Fault{Err: api.ErrRange, At: 3}},
		"store, no load": {func(w *trap.Work) { w.Store(2, 1) }, api.Fault{Err: api.ErrUnmapped, At: 2}},
		"fail":           {func(w *trap.Work) { w.Fail(api.ErrLost, 77) }, api.Fault{Err: api.ErrLost, At: 77}},
		"fail with OK":   {func(w *trap.Work) { w.Fail(api.OK, 5) }, api.Fault{At: 5}},
		"fail with -1":   {func(w *trap.Work) { w.Fail(-1, math.MinInt) }, api.Fault{Err: -1, At: math.MinInt}},
	} {
		m := newMemory(3)
		m.frozen = 2
		after := false
		var kept *trap.Work
		work := func(w *trap.Work) {
			kept = w
			w.Store(0, 1)
			w.Store(1, 2)
			w.Store(0, 3)
			c.f(w)
			after = true
		}
		if got := trap.Run(m, work); got != c.want {
			t.Errorf("%s: fault %v", name, got)
		}
		if after {
			t.Errorf("%s: the function continues", name)
		}
		m.is(t, 100, 101, 102)
		if kept.Stores() != 0 {
			t.Errorf("%s: %d stores", name, kept.Stores())
		}
		fault, x := trap.Guard(m, work)
		if fault != c.want || x != nil {
			t.Errorf("%s: Guard: %v, %v", name, fault, x)
		}
		m.is(t, 100, 101, 102)
	}
}

func TestOtherPanicsContinue(t *testing.T) {
	mine := errors.New("mine")
	for name, f := range map[string]func(w *trap.Work){
		"panic":                 func(w *trap.Work) { panic(mine) },
		"throw":                 func(w *trap.Work) { w.Throw(mine) },
		"after a stop":          func(w *trap.Work) { defer func() { panic(mine) }(); w.Load(9) },
		"after a caught stop":   func(w *trap.Work) { caught(func() { w.Load(9) }); panic(mine) },
		"throw after a stop":    func(w *trap.Work) { caught(func() { w.Load(9) }); w.Throw(mine) },
		"within a part":         func(w *trap.Work) { w.Part(func(w *trap.Work) { panic(mine) }) },
		"within another":        func(w *trap.Work) { trap.Run(newMemory(1), func(w *trap.Work) { panic(mine) }) },
		"throw through another": func(w *trap.Work) { trap.Run(newMemory(1), func(*trap.Work) { w.Throw(mine) }) },
	} {
		m := newMemory(2)
		work := func(w *trap.Work) {
			w.Store(0, 1)
			w.Store(1, 2)
			f(w)
			t.Errorf("%s: the function continues", name)
		}
		if got := caught(func() { trap.Run(m, work) }); got != mine {
			t.Errorf("%s: Run panics with %v", name, got)
		}
		m.is(t, 100, 101)
		fault, x := trap.Guard(m, work)
		if fault != (api.Fault{}) || x != mine {
			t.Errorf("%s: Guard: %v, %v", name, fault, x)
		}
		m.is(t, 100, 101)
	}
	m := newMemory(2)
	_, x := trap.Guard(m, func(w *trap.Work) { panic(nil) })
	if _, ok := x.(*runtime.PanicNilError); !ok {
		t.Errorf("panic(nil): %v", x)
	}
	_, x = trap.Guard(m, func(w *trap.Work) { w.Store(0, 9); var l []int; l[len(m.words)] = 1 })
	if _, ok := x.(runtime.Error); !ok {
		t.Errorf("a fault of the language: %v", x)
	}
	m.is(t, 100, 101)
}

// TestThrownFault throws a fault: the work is not stopped by it.
func TestThrownFault(t *testing.T) {
	m := newMemory(1)
	mine := api.Fault{Err: api.ErrRange, At: 9}
	for name, throw := range map[string]func(w *trap.Work){
		"Throw": func(w *trap.Work) { w.Throw(mine) },
		"panic": func(w *trap.Work) { panic(mine) },
		"errno": func(w *trap.Work) { w.Throw(api.ErrRange) },
	} {
		fault, x := trap.Guard(m, func(w *trap.Work) {
			w.Store(0, 5)
			throw(w)
		})
		if fault != (api.Fault{}) || x != mine && x != api.ErrRange {
			t.Errorf("%s: %v, %v", name, fault, x)
		}
		m.is(t, 100)
	}
}

func TestThrowOfNothing(t *testing.T) {
	m := newMemory(1)
	if fault := trap.Run(m, func(w *trap.Work) { w.Throw(nil); w.Store(0, 4) }); fault != (api.Fault{}) {
		t.Error(fault)
	}
	m.is(t, 4)
}

func TestPart(t *testing.T) {
	m := newMemory(4)
	fault := trap.Run(m, func(w *trap.Work) {
		w.Store(0, 1)
		got := w.Part(func(v *trap.Work) {
			if v != w {
				t.Error("another Work")
			}
			v.Store(0, 2)
			v.Store(1, 2)
			v.Load(7)
		})
		if got != (api.Fault{Err: api.ErrRange, At: 7}) || w.Stores() != 1 || w.Load(0) != 1 || w.Load(1) != 101 {
			t.Errorf("a part that is stopped: %v, %d stores", got, w.Stores())
		}
		if got := w.Part(func(w *trap.Work) { w.Store(2, 3) }); got != (api.Fault{}) || w.Stores() != 2 {
			t.Errorf("a part that returns: %v", got)
		}
		if x := caught(func() { w.Part(func(w *trap.Work) { w.Store(3, 9); panic("p") }) }); x != "p" || w.Stores() != 2 || w.Load(3) != 103 {
			t.Errorf("a part that panics: %v", x)
		}
		if got := w.Part(func(w *trap.Work) { w.Part(func(w *trap.Work) { w.Fail(1, 1) }); w.Store(3, 4) }); got != (api.Fault{}) {
			t.Errorf("a part within a part: %v", got)
		}
	})
	if fault != (api.Fault{}) {
		t.Error(fault)
	}
	m.is(t, 1, 101, 3, 4)
	fault = trap.Run(m, func(w *trap.Work) {
		w.Part(func(w *trap.Work) { w.Store(0, 50) })
		w.Store(1, 51)
		w.Fail(api.ErrBad, 2)
	})
	if fault != (api.Fault{Err: api.ErrBad, At: 2}) {
		t.Error(fault)
	}
	m.is(t, 1, 101, 3, 4)
}

// TestNested stops a surrounding work from within another one on the same space.
func TestNested(t *testing.T) {
	run := func(m *memory, f func(w *trap.Work)) { trap.Run(m, f) }
	guard := func(m *memory, f func(w *trap.Work)) { trap.Guard(m, f) }
	for name, inner := range map[string]func(m *memory, f func(w *trap.Work)){"Run": run, "Guard": guard} {
		m := newMemory(2)
		fault := trap.Run(m, func(w *trap.Work) {
			w.Store(0, 1)
			inner(m, func(v *trap.Work) {
				v.Store(0, 2)
				v.Store(1, 2)
				w.Fail(api.ErrState, 6)
			})
			t.Errorf("%s: the surrounding function continues", name)
		})
		if fault != (api.Fault{Err: api.ErrState, At: 6}) {
			t.Errorf("%s: %v", name, fault)
		}
		m.is(t, 100, 101)
		fault = trap.Run(m, func(w *trap.Work) {
			w.Store(0, 1)
			inner(m, func(v *trap.Work) {
				v.Store(0, 2)
				v.Store(1, 3)
				v.Fail(api.ErrState, 6)
			})
			w.Store(1, w.Load(0)+1)
		})
		if fault != (api.Fault{}) {
			t.Errorf("%s: %v", name, fault)
		}
		m.is(t, 1, 2)
		got := api.Fault{}
		trap.Run(m, func(w *trap.Work) {
			got = w.Part(func(w *trap.Work) {
				inner(m, func(v *trap.Work) { v.Store(0, 9); w.Load(50) })
				t.Errorf("%s: the part continues", name)
			})
		})
		if got != (api.Fault{Err: api.ErrRange, At: 50}) {
			t.Errorf("%s in a part: %v", name, got)
		}
		m.is(t, 1, 2)
	}
}

func TestNil(t *testing.T) {
	var w *trap.Work
	w.Store(0, 1)
	w.Fail(1, 1)
	w.Throw("x")
	called := false
	fault := w.Part(func(*trap.Work) { called = true })
	if w.Load(0) != 0 || w.Stores() != 0 || fault != (api.Fault{Err: api.ErrNil}) || called {
		t.Error("nil Work")
	}
}

// TestAgainstModel runs random nested parts that stop, panic or return, and compares with copies of the memory.
func TestAgainstModel(t *testing.T) {
	r := rand.New(rand.NewSource(15))
	for range 3000 {
		m := newMemory(6)
		m.frozen = r.Intn(30)
		model := slices.Clone(m.words)
		var act func(w *trap.Work, depth int)
		act = func(w *trap.Work, depth int) {
			for range r.Intn(6) {
				a, x := r.Intn(7), r.Uint64()
				switch k := r.Intn(10); {
				case k < 6:
					if a < 6 && a != m.frozen {
						model[a] = x
					}
					w.Store(a, x)
				case k == 6:
					w.Fail(api.Errno(r.Intn(5)), a)
				case k == 7:
					panic(a)
				case depth < 4:
					before, done := slices.Clone(model), false
					part := func(w *trap.Work) { act(w, depth+1); done = true }
					x := caught(func() { w.Part(part) })
					if !done {
						copy(model, before)
					}
					if n, ok := x.(int); ok && n > 3 {
						panic(n)
					}
				}
				if !slices.Equal(m.words, model) {
					t.Fatalf("the memory is %d, not %d", m.words, model)
				}
			}
		}
		before, done := slices.Clone(model), false
		fault, x := trap.Guard(m, func(w *trap.Work) { act(w, 0); done = true })
		if !done {
			copy(model, before)
		}
		if done && (fault != (api.Fault{}) || x != nil) {
			t.Fatalf("%v, %v", fault, x)
		}
		if !slices.Equal(m.words, model) {
			t.Fatalf("the memory is %d, not %d", m.words, model)
		}
	}
}
