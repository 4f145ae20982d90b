package replay_test

import (
	"math"
	"math/rand"
	"strings"
	"testing"

	"ullage/api"
	"ullage/float"
	"ullage/heap"
	"ullage/replay"
	"ullage/script"
	"ullage/world"
)

const text = "kind sliding\npage 4\nblock 8\nwords 64\nslots 2\nstack 5\nahead 1\ntrigger 1p-1\n"

func conf(kind int) api.Config {
	return api.Config{Kind: kind, Page: 4, Block: 8, Words: 64, Slots: 2, Stack: 5, Ahead: 1, Trigger: 0.5}
}

func TestPut(t *testing.T) {
	s, e := replay.Put(conf(api.Sliding), []api.Op{{Kind: api.OpAlloc, Header: api.Header{Floats: 1}}, {Kind: api.OpSetFloat, Float: math.Inf(-1)}, {Kind: api.OpSum}, {Kind: api.OpGet, A: 5}})
	want := text + "--\nalloc 0 0 1 0\n> ok\nsetf 0 0 -inf\n> ok\nsum 0\n> ok -inf\nget 5 0\n> no 17\n"
	if s != want || e != api.OK {
		t.Errorf("%q, error %d", s, e)
	}
	if s, e := replay.Put(conf(api.Sliding), nil); s != text+"--\n" || e != api.OK {
		t.Errorf("no operations: %q, error %d", s, e)
	}
	if s, e := replay.Put(conf(7), []api.Op{{}}); s != "" || e != api.ErrConf {
		t.Errorf("no such kind: error %d", e)
	}
	for _, x := range []api.Op{{}, {Kind: 18}, {Kind: api.OpLive, A: 1}, {Kind: api.OpGet, Float: math.Copysign(0, -1)}} {
		if s, e := replay.Put(conf(api.Sliding), []api.Op{{Kind: api.OpLive}, x}); s != "" || e != api.ErrArg {
			t.Errorf("%+v: error %d", x, e)
		}
	}
}

func TestCheck(t *testing.T) {
	for s, want := range map[string]struct {
		n int
		e api.Errno
	}{
		"": {0, api.ErrLine}, text: {0, api.ErrLine}, text + "-- ": {0, api.ErrLine}, text + "---": {0, api.ErrLine}, text + " --\n": {0, api.ErrLine},
		"--": {0, api.ErrLine}, "x\n--": {1, api.ErrLine}, "#\n\npage x\n--": {3, api.ErrForm}, strings.Replace(text, "page 4", "page 3", 1) + "--": {0, api.ErrConf}, strings.Replace(text, "sliding", "slide", 1) + "--\nx": {1, api.ErrConf}, text + "page 4\n--\n": {9, api.ErrLine},
		text + "--": {0, api.OK}, text + "--\n": {0, api.OK}, "# a remark\n\n" + text + "--\n": {0, api.OK},
		text + "--\n> ok": {10, api.ErrLine}, text + "--\nlive": {0, api.OK}, text + "--\nlive\n> ok 0 0": {0, api.OK}, text + "--\nlive\n\n#\n \t\n # x\n> ok 0 0\n": {0, api.OK},
		text + "--\nlive\n> ok 0 0\n> ok 0 0": {12, api.ErrLine}, text + "--\nlive\n> ok 0 0\n> ok 0 1": {12, api.ErrLine}, text + "--\nlive\n> ok 0 1": {11, api.ErrLost}, text + "--\nlive\n> ok 0 0 ": {11, api.ErrLost}, text + "--\nlive\n>  ok 0 0": {11, api.ErrLost}, text + "--\nlive\n> ": {11, api.ErrLost},
		text + "--\nlive\nlive\n> ok 0 0\nstep\n> ok": {0, api.OK}, text + "--\nlive\n>ok 0 0": {11, api.ErrLine}, text + "--\nlive\n > ok 0 0": {11, api.ErrLine}, text + "--\nlive\n>": {11, api.ErrLine}, text + "--\nlive\n>\tok 0 0": {11, api.ErrLine},
		text + "--\n--": {10, api.ErrLine}, text + "--\n\nget 0 x": {11, api.ErrForm}, text + "--\n  get   0\t0 \n> no 18": {0, api.OK}, text + "--\nset 0 0 10000000000000000": {10, api.ErrOver}, text + "--\nlive\nx\n> ok 0 0": {11, api.ErrLine},
	} {
		if n, e := replay.Check(s); n != want.n || e != want.e {
			t.Errorf("%q: line %d, error %d", strings.TrimPrefix(s, text), n, e)
		}
	}
}

func operations(r *rand.Rand, n int) []api.Op {
	l := make([]api.Op, 0, n)
	for len(l) < n {
		lines := []string{"alloc A 1 2 1", "load A B 0", "store A 0 B", "get A 3", "set A 3 7f", "getf A 1", "setf A 1 1p-3", "setf A 2 nan", "copy A B", "clear A", "same A B", "shape A", "sum A", "order A 1 B 2", "live", "collect", "start", "step", "alloc A 0 0 20", "order A 2 A 1", "get 9 9"}
		line := strings.NewReplacer("A", []string{"0", "1"}[r.Intn(2)], "B", []string{"0", "1"}[r.Intn(2)]).Replace(lines[r.Intn(len(lines))])
		x, e := script.Parse(line)
		if e != api.OK {
			panic(line)
		}
		if x.Kind == api.OpSetFloat && r.Intn(2) == 0 {
			x.Float = float.Canon(float.Of([]uint64{0x7FF0000000000000, 1 << 63, r.Uint64()}[r.Intn(3)]))
		}
		l = append(l, x)
	}
	return l
}

// TestRecords checks records of random operations, also with other configurations in their place.
func TestRecords(t *testing.T) {
	for seed := range int64(300) {
		r := rand.New(rand.NewSource(seed))
		l := operations(r, 80)
		s, e := replay.Put(conf(1+r.Intn(3)), l)
		if e != api.OK {
			t.Fatal(e)
		}
		_, rest, _ := strings.Cut(s, "--\n")
		for kind := range 3 {
			c := conf(kind + 1)
			c.Page, c.Block, c.Stack, c.Trigger = 1<<r.Intn(6), 1<<r.Intn(6), 1, math.NaN()
			other, _ := world.PutConf(c)
			for _, record := range []string{s, other + "--\n" + rest} {
				if n, e := replay.Check(record); n != 0 || e != api.OK {
					t.Fatalf("seed %d: line %d, error %d: %s", seed, n, e, strings.Split(record, "\n")[n-1])
				}
			}
		}
		h, _ := heap.New(conf(api.Copying))
		lines := strings.Split(rest, "\n")
		for i, x := range l {
			line, _ := script.Line(x)
			if lines[2*i] != line || lines[2*i+1] != "> "+world.Reply(x.Kind, h.Do(x)) {
				t.Fatalf("seed %d: operation %d", seed, i)
			}
		}
		i := r.Intn(len(l))
		lines[2*i+1] += "x"
		if n, e := replay.Check(text + "--\n" + strings.Join(lines, "\n")); n != 11+2*i || e != api.ErrLost {
			t.Fatalf("seed %d: a changed reply: line %d, error %d", seed, n, e)
		}
	}
}
