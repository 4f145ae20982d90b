package slide_test

import (
	"math"
	"math/rand"
	"testing"

	"ullage/api"
	"ullage/header"
	"ullage/object"
	"ullage/roots"
	"ullage/slide"
	"ullage/trap"
	"ullage/vmem"
)

var _ trap.Space = (*slide.Cycle)(nil)

// thing is an object of a world: its old and its new address, and its words with old and with new pointers.
type thing struct {
	at, to   int
	header   api.Header
	old, new []uint64
}

// world is a memory with random objects in the source range, some of them reachable.
type world struct {
	memory *vmem.Memory
	roots  *roots.Table
	conf   slide.Conf
	live   []*thing // in order of addresses
	words  int
}

func build(t *testing.T, seed int64, frames int) *world {
	t.Helper()
	r := rand.New(rand.NewSource(seed))
	page := 1 << r.Intn(5)
	from, to := page*(1+r.Intn(3)), 0
	size := page * (1 + r.Intn(200/page+1))
	w := &world{}
	if to = from + size + page*r.Intn(3); r.Intn(2) == 0 {
		from, to = to, from
	}
	w.conf = slide.Conf{From: from, To: to, Limit: to + size, Block: 1 << r.Intn(7), Stack: 1 + r.Intn(5), Ahead: r.Intn(4)}
	things := w.lay(r, size)
	source := (w.conf.Top - from + page - 1) / page
	if frames == 0 {
		frames = source + (w.conf.Ahead+1)*max(1, w.conf.Block/page) + 1
	}
	w.memory, _ = vmem.New(max(from, to)+size, page, max(frames, source))
	w.memory.Need(from, w.conf.Top)
	w.write(r, things)
	return w
}

// lay chooses objects one after another, with gaps where some are missing.
func (w *world) lay(r *rand.Rand, size int) []*thing {
	var things []*thing
	at := w.conf.From
	for range r.Intn(40) {
		h := api.Header{Pointers: r.Intn(4), Floats: r.Intn(3), Words: r.Intn(9)}
		if at+header.Size(h) > w.conf.From+size {
			break
		}
		things = append(things, &thing{at: at, header: h})
		at += header.Size(h)
	}
	w.conf.Top = at
	return things
}

// write stores the objects, with random pointers among them, and computes which ones are live.
func (w *world) write(r *rand.Rand, things []*thing) {
	w.roots, _ = roots.New(4)
	byAddress := map[int]*thing{}
	for _, x := range things {
		object.Make(w.memory, x.at, x.header)
		first, _ := w.memory.Load(x.at)
		x.old = []uint64{first}
		for i := range header.Size(x.header) - 1 {
			value := r.Uint64()
			if i < x.header.Pointers {
				value = 0
				if r.Intn(3) > 0 {
					value = uint64(things[r.Intn(len(things))].at)
				}
			}
			w.memory.Store(x.at+1+i, value)
			x.old = append(x.old, value)
		}
		byAddress[x.at] = x
	}
	reached := map[int]bool{}
	var visit func(a int)
	visit = func(a int) {
		if a == 0 || reached[a] {
			return
		}
		reached[a] = true
		for _, p := range byAddress[a].old[1 : 1+byAddress[a].header.Pointers] {
			visit(int(p))
		}
	}
	for i := range 3 {
		if len(things) > 0 && r.Intn(3) > 0 {
			a := things[r.Intn(len(things))].at
			w.roots.Set(i, a)
			visit(a)
		}
	}
	to := w.conf.To
	for _, x := range things {
		if reached[x.at] {
			x.to = to
			to += len(x.old)
			w.live = append(w.live, x)
		}
	}
	w.words = to - w.conf.To
	for _, x := range w.live {
		x.new = append([]uint64(nil), x.old...)
		for i := range x.header.Pointers {
			if p := x.old[1+i]; p != 0 {
				x.new[1+i] = uint64(byAddress[int(p)].to)
			}
		}
	}
}

// expected returns the words at the new addresses.
func (w *world) expected() []uint64 {
	var l []uint64
	for _, x := range w.live {
		l = append(l, x.new...)
	}
	return l
}

// mappedSource returns how many source pages are mapped, and how many of them contain a word that is not moved.
func (w *world) mappedSource(y *slide.Cycle) (int, int) {
	page := w.memory.Page()
	mapped, needed := 0, 0
	for p := w.conf.From / page; p*page < w.conf.Top; p++ {
		holds := false
		for _, x := range w.live {
			for i := range x.old {
				if (x.at+i)/page == p && !y.Moved((x.to+i-w.conf.To)/w.conf.Block) {
					holds = true
				}
			}
		}
		if holds {
			needed++
		}
		if w.memory.Mapped(p) {
			mapped++
		}
	}
	return mapped, needed
}

// open opens the cycle of the world, and checks what it did.
func (w *world) open(t *testing.T) *slide.Cycle {
	t.Helper()
	before := w.roots.All()
	y, e := slide.Open(w.memory, w.roots, w.conf)
	if e != api.OK || y == nil {
		t.Fatalf("Open: error %d", e)
	}
	blocks := (w.words + w.conf.Block - 1) / w.conf.Block
	if y.Objects() != len(w.live) || y.Blocks() != blocks || y.Left() != blocks || y.Frontier() != 0 || y.Top() != w.conf.To+w.words || y.Done() != (blocks == 0) {
		t.Fatalf("a cycle with %d objects, %d blocks, %d left, top %d", y.Objects(), y.Blocks(), y.Left(), y.Top())
	}
	for i, a := range w.roots.All() {
		want := 0
		for _, x := range w.live {
			if x.at == before[i] {
				want = x.to
			}
		}
		if a != want {
			t.Fatalf("root %d: %d, not %d", i, a, want)
		}
	}
	if mapped, needed := w.mappedSource(y); mapped != needed {
		t.Fatalf("%d source pages are mapped, %d are needed", mapped, needed)
	}
	return y
}

// state checks that the numbers of a cycle fit together.
func state(t *testing.T, y *slide.Cycle) {
	t.Helper()
	left, frontier := 0, y.Blocks()
	for k := y.Blocks() - 1; k >= 0; k-- {
		if !y.Moved(k) {
			left++
			frontier = k
		}
	}
	if y.Left() != left || y.Frontier() != frontier || y.Done() != (left == 0) {
		t.Fatalf("%d left, frontier %d", y.Left(), y.Frontier())
	}
}

func TestTransparency(t *testing.T) {
	for seed := range int64(500) {
		w := build(t, seed, 0)
		r := rand.New(rand.NewSource(seed))
		y := w.open(t)
		words, steps := w.expected(), 0
		for !y.Done() {
			a := w.conf.To + r.Intn(len(words))
			k := (a - w.conf.To) / w.conf.Block
			before, frontier := y.Left(), y.Frontier()
			switch r.Intn(4) {
			case 0:
				more, e := y.Step()
				if !more || e != api.OK || y.Left() != before-1 || !y.Moved(frontier) {
					t.Fatalf("seed %d: Step: error %d", seed, e)
				}
				steps++
			case 1:
				if e := y.Touch(a); e != api.OK || !y.Moved(k) {
					t.Fatalf("seed %d: Touch: error %d", seed, e)
				}
			case 2:
				if word, e := y.Load(a); e != api.OK || word != words[a-w.conf.To] || !y.Moved(k) {
					t.Fatalf("seed %d: Load(%d): %x, error %d", seed, a, word, e)
				}
			case 3:
				words[a-w.conf.To] = r.Uint64()
				if e := y.Store(a, words[a-w.conf.To]); e != api.OK {
					t.Fatalf("seed %d: Store(%d): error %d", seed, a, e)
				}
			}
			state(t, y)
			ahead := 0
			for k := y.Frontier(); k < y.Blocks(); k++ {
				if y.Moved(k) {
					ahead++
				}
			}
			if ahead > w.conf.Ahead {
				t.Fatalf("seed %d: %d blocks are moved ahead", seed, ahead)
			}
			if mapped, needed := w.mappedSource(y); mapped != needed {
				t.Fatalf("seed %d: %d source pages are mapped, %d are needed", seed, mapped, needed)
			}
			left, used := y.Left(), w.memory.Used()
			for i, want := range words {
				if got, e := y.Peek(w.conf.To + i); got != want || e != api.OK {
					t.Fatalf("seed %d: Peek(%d): %x, not %x, error %d", seed, w.conf.To+i, got, want, e)
				}
			}
			if y.Left() != left || w.memory.Used() != used {
				t.Fatalf("seed %d: Peek moves", seed)
			}
		}
		if steps > y.Blocks() {
			t.Fatalf("seed %d: %d steps for %d blocks", seed, steps, y.Blocks())
		}
		if more, e := y.Step(); more || e != api.OK {
			t.Fatalf("seed %d: a step of a finished cycle", seed)
		}
		page := w.memory.Page()
		if w.memory.Used() != (w.words+page-1)/page {
			t.Fatalf("seed %d: %d pages at the end", seed, w.memory.Used())
		}
		for i, want := range words {
			if got, e := w.memory.Load(w.conf.To + i); got != want || e != api.OK {
				t.Fatalf("seed %d: word %d", seed, i)
			}
		}
	}
}

// TestFewFrames runs cycles with so few frames that blocks cannot always be moved.
func TestFewFrames(t *testing.T) {
	failures := 0
	for seed := range int64(1500) {
		w := build(t, seed, 1)
		r := rand.New(rand.NewSource(seed))
		y := w.open(t)
		words := w.expected()
		for range 3 * len(words) {
			a := w.conf.To + r.Intn(len(words))
			left, used, high := y.Left(), w.memory.Used(), w.memory.High()
			peeked, e1 := y.Peek(a)
			if y.Left() != left || w.memory.Used() != used || w.memory.High() != high {
				t.Fatalf("seed %d: Peek moves", seed)
			}
			loaded, e2 := y.Load(a)
			if e2 == api.OK && (peeked != loaded || e1 != api.OK || loaded != words[a-w.conf.To]) || e2 != api.OK && e2 != api.ErrFrames {
				t.Fatalf("seed %d: Peek(%d): %x, error %d, Load: %x, error %d", seed, a, peeked, e1, loaded, e2)
			}
			if e2 != api.OK {
				failures++
			}
			state(t, y)
			if mapped, needed := w.mappedSource(y); mapped != needed {
				t.Fatalf("seed %d: %d source pages are mapped, %d are needed", seed, mapped, needed)
			}
			left, used = y.Left(), w.memory.Used()
			if r.Intn(3) == 0 {
				more, e := y.Step()
				if e != api.OK && (more || e != api.ErrFrames || y.Left() != left || w.memory.Used() != used) {
					t.Fatalf("seed %d: Step: error %d", seed, e)
				}
			}
		}
	}
	if failures == 0 {
		t.Error("frames were never short")
	}
}

func TestBlocksMovedAhead(t *testing.T) {
	m, _ := vmem.New(256, 4, 60)
	r, _ := roots.New(1)
	m.Need(4, 104)
	for a := 4; a < 100; a += 8 {
		object.Make(m, a, api.Header{Pointers: 1, Words: 6})
		object.SetPointer(m, a, 0, a+8)
	}
	object.Make(m, 100, api.Header{Pointers: 1, Words: 2})
	r.Set(0, 4)
	y, e := slide.Open(m, r, slide.Conf{From: 4, Top: 104, To: 104, Limit: 208, Block: 8, Stack: 1, Ahead: 2})
	if e != api.OK || y.Blocks() != 13 {
		t.Fatalf("%d blocks, error %d", y.Blocks(), e)
	}
	touch := func(k, left, frontier int) {
		t.Helper()
		if e := y.Touch(104 + 8*k); e != api.OK || y.Left() != left || y.Frontier() != frontier || !y.Moved(k) {
			t.Errorf("Touch of block %d: %d left, frontier %d", k, y.Left(), y.Frontier())
		}
	}
	touch(9, 12, 0)
	touch(2, 11, 0)
	touch(2, 11, 0)
	touch(7, 8, 3)  // blocks 0 and 1 are moved, then 2 is not ahead any more
	touch(12, 3, 8) // blocks 3 to 6 are moved, then 7 is not ahead any more
	touch(8, 2, 10)
	for _, a := range []int{0, 103, 207, 208, math.MaxInt, math.MinInt} {
		if e := y.Touch(a); e != api.OK || y.Left() != 2 {
			t.Errorf("Touch(%d): error %d", a, e)
		}
	}
	if y.Moved(-1) || y.Moved(13) || y.Moved(10) || !y.Moved(12) {
		t.Error("Moved")
	}
}

func TestOtherAddresses(t *testing.T) {
	m, _ := vmem.New(64, 4, 16)
	r, _ := roots.New(1)
	m.Need(4, 8)
	m.Need(40, 44)
	m.Store(41, 77)
	object.Make(m, 4, api.Header{Words: 1})
	r.Set(0, 4)
	y, e := slide.Open(m, r, slide.Conf{From: 4, Top: 8, To: 8, Limit: 64, Block: 4, Stack: 1})
	if e != api.OK {
		t.Fatal(e)
	}
	if word, e := y.Load(41); word != 77 || e != api.OK || y.Left() != 1 {
		t.Errorf("Load of another address: %d, error %d", word, e)
	}
	if word, e := y.Peek(41); word != 77 || e != api.OK {
		t.Errorf("Peek of another address: %d, error %d", word, e)
	}
	for a, want := range map[int]api.Errno{12: api.ErrUnmapped, 64: api.ErrRange, -1: api.ErrRange, math.MaxInt: api.ErrRange} {
		_, e1 := y.Load(a)
		_, e2 := y.Peek(a)
		if e3 := y.Store(a, 1); e1 != want || e2 != want || e3 != want || y.Left() != 1 {
			t.Errorf("address %d: errors %d, %d, %d", a, e1, e2, e3)
		}
	}
	if e := y.Store(43, 5); e != api.OK || y.Left() != 1 {
		t.Errorf("Store at another address: error %d", e)
	}
}

func TestCheck(t *testing.T) {
	m, _ := vmem.New(64, 4, 16)
	good := slide.Conf{From: 4, Top: 31, To: 32, Limit: 64, Block: 8, Stack: 9, Ahead: 2}
	with := func(change func(c *slide.Conf)) slide.Conf {
		c := good
		change(&c)
		return c
	}
	for i, c := range []slide.Conf{
		good,
		with(func(c *slide.Conf) { c.Top = 32 }), with(func(c *slide.Conf) { c.Top = 4 }), with(func(c *slide.Conf) { c.Limit = 32 }),
		with(func(c *slide.Conf) { c.Block, c.Stack, c.Ahead = 1, 1, 0 }), with(func(c *slide.Conf) { c.Block, c.Stack, c.Ahead = 1024, 4096, 16 }),
		with(func(c *slide.Conf) { c.From, c.Top, c.To, c.Limit = 36, 64, 4, 36 }),
		with(func(c *slide.Conf) { c.From, c.Top, c.To, c.Limit = 64, 64, 64, 64 }),
	} {
		if e := slide.Check(m, c); e != api.OK {
			t.Errorf("valid %d: error %d", i, e)
		}
	}
	r, _ := roots.New(1)
	for i, c := range []slide.Conf{
		with(func(c *slide.Conf) { c.Block = 3 }), with(func(c *slide.Conf) { c.Block = 0 }), with(func(c *slide.Conf) { c.Block = 2048 }), with(func(c *slide.Conf) { c.Block = -8 }),
		with(func(c *slide.Conf) { c.Stack = 0 }), with(func(c *slide.Conf) { c.Stack = 4097 }), with(func(c *slide.Conf) { c.Ahead = -1 }), with(func(c *slide.Conf) { c.Ahead = 17 }),
		with(func(c *slide.Conf) { c.From = 0 }), with(func(c *slide.Conf) { c.From = 5 }), with(func(c *slide.Conf) { c.From = -4 }), with(func(c *slide.Conf) { c.From = 36 }),
		with(func(c *slide.Conf) { c.To = 0; c.Limit = 4 }), with(func(c *slide.Conf) { c.To = 33 }), with(func(c *slide.Conf) { c.Limit = 63 }), with(func(c *slide.Conf) { c.Limit = 28 }), with(func(c *slide.Conf) { c.Limit = 68 }),
		with(func(c *slide.Conf) { c.Top = 33 }), with(func(c *slide.Conf) { c.Top = 3 }), with(func(c *slide.Conf) { c.Top = 65 }), with(func(c *slide.Conf) { c.To = 28 }),
		with(func(c *slide.Conf) { c.From, c.Top = 68, 68 }), with(func(c *slide.Conf) { c.To, c.Limit = 68, 68 }),
		with(func(c *slide.Conf) { c.From, c.To, c.Limit, c.Top = math.MinInt, math.MinInt, math.MaxInt, math.MaxInt }), with(func(c *slide.Conf) { c.Top = math.MaxInt }), {},
	} {
		if e := slide.Check(m, c); e != api.ErrArg {
			t.Errorf("not valid %d: error %d", i, e)
		}
		if y, e := slide.Open(m, r, c); y != nil || e != api.ErrArg {
			t.Errorf("Open, not valid %d: error %d", i, e)
		}
	}
	if slide.Check(nil, slide.Conf{}) != api.ErrNil {
		t.Error("no memory")
	}
	if _, e := slide.Open(nil, r, good); e != api.ErrNil {
		t.Error("Open without memory")
	}
	if _, e := slide.Open(m, nil, slide.Conf{}); e != api.ErrNil {
		t.Error("Open without roots")
	}
}

func TestOpenRefuses(t *testing.T) {
	for name, c := range map[string]struct {
		change func(m *vmem.Memory, r *roots.Table, c *slide.Conf)
		want   api.Errno
	}{
		"no object":        {func(m *vmem.Memory, r *roots.Table, c *slide.Conf) { r.Set(1, 5) }, api.ErrLost},
		"not mapped":       {func(m *vmem.Memory, r *roots.Table, c *slide.Conf) { r.Set(1, 60) }, api.ErrLost},
		"below the source": {func(m *vmem.Memory, r *roots.Table, c *slide.Conf) { c.From = 12 }, api.ErrLost},
		"above the source": {func(m *vmem.Memory, r *roots.Table, c *slide.Conf) { c.Top = 21 }, api.ErrLost},
		"too many words":   {func(m *vmem.Memory, r *roots.Table, c *slide.Conf) { c.Limit = 36 }, api.ErrMemory},
	} {
		m, _ := vmem.New(64, 4, 16)
		r, _ := roots.New(2)
		m.Need(4, 28)
		object.Make(m, 8, api.Header{Words: 2})
		object.Make(m, 20, api.Header{Words: 1})
		r.Set(0, 8)
		r.Set(1, 20)
		conf := slide.Conf{From: 4, Top: 28, To: 32, Limit: 64, Block: 8, Stack: 9}
		c.change(m, r, &conf)
		slots, used := r.All(), m.Used()
		if y, e := slide.Open(m, r, conf); y != nil || e != c.want || m.Used() != used || r.All()[0] != slots[0] || r.All()[1] != slots[1] {
			t.Errorf("%s: error %d", name, e)
		}
	}
}

// TestJustEnough moves to a destination range that is exactly large enough.
func TestJustEnough(t *testing.T) {
	for words, want := range map[int]api.Errno{7: api.OK, 8: api.ErrMemory} {
		m, _ := vmem.New(64, 4, 16)
		r, _ := roots.New(1)
		m.Need(4, 28)
		object.Make(m, 9, api.Header{Words: words})
		r.Set(0, 9)
		if _, e := slide.Open(m, r, slide.Conf{From: 4, Top: 28, To: 40, Limit: 48, Block: 4, Stack: 1}); e != want {
			t.Errorf("%d words: error %d", words+1, e)
		}
	}
}

func TestNothingReachable(t *testing.T) {
	m, _ := vmem.New(64, 4, 16)
	r, _ := roots.New(2)
	m.Need(4, 26)
	object.Make(m, 8, api.Header{Words: 2})
	y, e := slide.Open(m, r, slide.Conf{From: 4, Top: 26, To: 32, Limit: 64, Block: 8, Stack: 9})
	if e != api.OK || !y.Done() || y.Blocks() != 0 || m.Used() != 0 || y.Top() != 32 || y.Frontier() != 0 {
		t.Errorf("error %d, %d frames", e, m.Used())
	}
}

// TestWordsThatAreNotMapped has an object of which words are on a page that is not mapped: every call ends.
func TestWordsThatAreNotMapped(t *testing.T) {
	m, _ := vmem.New(64, 4, 16)
	r, _ := roots.New(1)
	m.Need(4, 8)
	h, _ := header.Put(api.Header{Words: 5})
	m.Store(5, h)
	r.Set(0, 5)
	y, _ := slide.Open(m, r, slide.Conf{From: 4, Top: 12, To: 32, Limit: 64, Block: 8, Stack: 9})
	y.Peek(36)
	y.Load(36)
	y.Step()
}

func TestNil(t *testing.T) {
	var y *slide.Cycle
	more, e1 := y.Step()
	a, e2 := y.Load(0)
	b, e3 := y.Peek(0)
	if more || e1 != api.ErrNil || a+b != 0 || e2 != api.ErrNil || e3 != api.ErrNil || y.Touch(0) != api.ErrNil || y.Store(0, 1) != api.ErrNil {
		t.Error("errors")
	}
	if !y.Done() || y.Moved(0) || y.Blocks()+y.Left()+y.Frontier()+y.Top()+y.Objects() != 0 {
		t.Error("numbers")
	}
}
