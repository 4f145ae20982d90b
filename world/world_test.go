package world_test

import (
	"math"
	"math/rand"
	"strconv"
	"strings"
	"testing"

	"ullage/api"
	"ullage/float"
	"ullage/heap"
	"ullage/script"
	"ullage/world"
)

const good = "kind sliding\npage 4\nblock 8\nwords 64\nslots 3\nstack 5\nahead 1\ntrigger 1p-1\n"

func conf() api.Config {
	return api.Config{Kind: api.Sliding, Page: 4, Block: 8, Words: 64, Slots: 3, Stack: 5, Ahead: 1, Trigger: 0.5}
}

// same compares configurations, triggers by their bits.
func same(a, b api.Config) bool {
	x, y := float.Bits(a.Trigger), float.Bits(b.Trigger)
	a.Trigger, b.Trigger = 0, 0
	return a == b && x == y
}

func TestConf(t *testing.T) {
	if s, e := world.PutConf(conf()); s != good || e != api.OK {
		t.Errorf("%q, error %d", s, e)
	}
	for _, kind := range []int{api.Sliding, api.Copying, api.Packing} {
		for _, trigger := range []float64{0, math.Copysign(0, -1), math.Inf(1), math.Inf(-1), -2, 0.1, float.Of(0x7FF8000000000000), float.Of(0xFFF0000000000001)} {
			c := conf()
			c.Kind, c.Trigger = kind, trigger
			s, e := world.PutConf(c)
			got, n, e2 := world.ReadConf(s)
			c.Trigger = float.Canon(c.Trigger)
			if e != api.OK || n != 0 || e2 != api.OK || !same(got, c) || strings.Count(s, "\n") != 8 {
				t.Errorf("%q: %+v, line %d, error %d", s, got, n, e2)
			}
		}
	}
	c := conf()
	c.Page = 3
	if s, e := world.PutConf(c); s != "" || e != api.ErrConf {
		t.Errorf("a configuration that is not valid: %q, error %d", s, e)
	}
}

func TestReadConf(t *testing.T) {
	lines := strings.Split(strings.TrimSuffix(good, "\n"), "\n")
	r := rand.New(rand.NewSource(35))
	for range 50 {
		text := "# a remark\n"
		for _, i := range r.Perm(8) {
			text += []string{"", "\n", " \t\n", " #kind copying x y\n"}[r.Intn(4)] + " " + strings.Replace(lines[i], " ", " \t ", 1) + " \n"
		}
		if c, n, e := world.ReadConf(strings.TrimSuffix(text, "\n")); n != 0 || e != api.OK || !same(c, conf()) {
			t.Fatalf("%q: %+v, line %d, error %d", text, c, n, e)
		}
	}
	with := func(i int, line string) string {
		l := append([]string(nil), lines...)
		l[i] = line
		return strings.Join(l, "\n")
	}
	for s, want := range map[string]struct {
		n int
		e api.Errno
	}{
		"": {0, api.ErrLine}, "#\n\n": {0, api.ErrLine}, with(3, ""): {0, api.ErrLine}, with(0, "#"): {0, api.ErrLine},
		with(2, "size 8"): {3, api.ErrLine}, with(2, "page 8"): {3, api.ErrLine}, with(7, "kind x"): {8, api.ErrLine}, with(1, "page"): {2, api.ErrLine}, with(1, "page 4 4"): {2, api.ErrLine}, with(1, "Page 4"): {2, api.ErrLine}, good + "page 4": {9, api.ErrLine}, good + "\nx": {10, api.ErrLine},
		with(0, "kind Sliding"): {1, api.ErrConf}, with(0, "kind 1"): {1, api.ErrConf}, with(0, "kind sliding x"): {1, api.ErrLine},
		with(1, "page 04"): {2, api.ErrForm}, with(4, "slots x"): {5, api.ErrForm}, with(5, "stack -0"): {6, api.ErrForm}, with(3, "words 9223372036854775808"): {4, api.ErrOver}, with(7, "trigger 0.5"): {8, api.ErrForm}, with(7, "trigger 2p0"): {8, api.ErrForm},
		with(1, "page 3"): {0, api.ErrConf}, with(6, "ahead -1"): {0, api.ErrConf}, with(3, "words 9223372036854775807"): {0, api.ErrConf},
		with(1, "page 3") + "\nx": {9, api.ErrLine}, with(0, "kind x") + "\nx": {1, api.ErrConf},
	} {
		c, n, e := world.ReadConf(s)
		if n != want.n || e != want.e || !same(c, api.Config{}) {
			t.Errorf("%q: %+v, line %d, error %d", s, c, n, e)
		}
	}
}

func TestReply(t *testing.T) {
	full := api.Reply{Is: true, N: -1, Word: 0xAB, Header: api.Header{Pointers: 1, Floats: 2, Words: 3}}
	for kind, want := range map[int]string{
		api.OpAlloc: "ok", api.OpLoad: "ok", api.OpStore: "ok", api.OpGet: "ok ab", api.OpSet: "ok", api.OpGetFloat: "ok 171p-1074", api.OpSetFloat: "ok", api.OpCopy: "ok", api.OpClear: "ok", api.OpSame: "ok yes",
		api.OpShape: "ok 1 2 3", api.OpSum: "ok 171p-1074", api.OpOrder: "ok -1", api.OpLive: "ok -1 171", api.OpCollect: "ok", api.OpStart: "ok", api.OpStep: "ok", 0: "ok", -1: "ok", 99: "ok",
	} {
		if got := world.Reply(kind, full); got != want {
			t.Errorf("kind %d: %q", kind, got)
		}
		r := full
		r.Code = api.ErrNull
		if got := world.Reply(kind, r); got != "no 18" {
			t.Errorf("kind %d with an error: %q", kind, got)
		}
	}
	for _, c := range []struct {
		kind int
		r    api.Reply
		want string
	}{
		{api.OpSame, api.Reply{}, "ok no"}, {api.OpGet, api.Reply{}, "ok 0"}, {api.OpGet, api.Reply{Word: math.MaxUint64}, "ok ffffffffffffffff"}, {api.OpSum, api.Reply{Word: 1 << 63}, "ok -0p0"}, {api.OpGetFloat, api.Reply{Word: 0xFFF0000000000001}, "ok nan"},
		{api.OpGet, api.Reply{Code: -3}, "no -3"}, {api.OpLive, api.Reply{N: 5, Word: math.MaxUint64}, "ok 5 18446744073709551615"},
	} {
		if got := world.Reply(c.kind, c.r); got != c.want {
			t.Errorf("%+v: %q", c.r, got)
		}
	}
}

func TestRun(t *testing.T) {
	for _, c := range [][3]string{
		{"", "", "conf 0 23\n"}, {"x", "x", "conf 1 23\n"}, {strings.Replace(good, "page 4", "page 3", 1), "x", "conf 0 22\n"}, {strings.Replace(good, "page 4", "page x", 1), "", "conf 2 2\n"},
		{good, "x", "script 1 23\n"}, {good, "live\nget 0 x", "script 2 2\n"}, {good, "", "live 0 0\n"}, {good, "#\n\n", "live 0 0\n"},
		{good, "alloc 0 0 1 0\nsetf 0 0 -inf\nsum 0", "ok\nok\nok -inf\nlive 1 2\n"},
		{good, "alloc 0 1 1 1\nset 0 2 ff\nget 0 2\nget 1 0\nget 0 0\nget 3 0\nshape 0\ncopy 1 0\nsame 0 1\nsame 0 2\nsetf 1 1 nan\ngetf 0 1\norder 0 1 1 1\nlive\ncollect\nstart\nstep\nclear 0\nclear 1\nlive",
			"ok\nok\nok ff\nno 18\nno 20\nno 17\nok 1 1 1\nok\nok yes\nok no\nok\nok nan\nok 0\nok 1 4\nok\nok\nok\nok\nok\nok 0 0\nlive 0 0\n"},
	} {
		if got := world.Run(c[0], c[1]); got != c[2] {
			t.Errorf("%q, %q: %q", c[0], c[1], got)
		}
	}
}

// randomScript returns lines of operations that are mostly possible.
func randomScript(r *rand.Rand, n int) []string {
	var l []string
	slot := func() string { return strconv.Itoa(r.Intn(3)) }
	field := func() string { return strconv.Itoa(r.Intn(4)) }
	for range n {
		switch r.Intn(9) {
		case 0, 1:
			l = append(l, "alloc "+slot()+" "+field()+" "+field()+" "+field())
		case 2:
			l = append(l, "store "+slot()+" "+field()+" "+slot())
		case 3:
			l = append(l, "load "+slot()+" "+slot()+" "+field())
		case 4:
			l = append(l, "set "+slot()+" "+field()+" "+strconv.FormatInt(r.Int63n(999), 16), "get "+slot()+" "+field())
		case 5:
			l = append(l, "setf "+slot()+" "+field()+" "+float.Text(float.Of(r.Uint64())), "sum "+slot(), "getf "+slot()+" "+field())
		case 6:
			l = append(l, "order "+slot()+" "+field()+" "+slot()+" "+field(), "live")
		case 7:
			l = append(l, "clear "+slot(), "same "+slot()+" "+slot(), "shape "+slot())
		case 8:
			l = append(l, "copy "+slot()+" "+slot())
		}
	}
	return l
}

// TestSameOutput runs scripts with several configurations, and with collections inserted anywhere.
func TestSameOutput(t *testing.T) {
	for seed := range int64(150) {
		r := rand.New(rand.NewSource(seed))
		lines := randomScript(r, 60)
		want := world.Run(good, strings.Join(lines, "\n"))
		if !strings.Contains(want, "live") {
			t.Fatalf("seed %d: %q", seed, want)
		}
		for _, kind := range []string{"sliding", "copying", "packing"} {
			c := "kind " + kind + "\npage " + strconv.Itoa(1<<r.Intn(7)) + "\nblock " + strconv.Itoa(1<<r.Intn(9)) + "\nwords 64\nslots 3\nstack " + strconv.Itoa(1+r.Intn(4)) + "\nahead " + strconv.Itoa(r.Intn(3)) + "\ntrigger " + []string{"nan", "0p0", "1p-1", "-inf"}[r.Intn(4)]
			if got := world.Run(c, strings.Join(lines, "\n")); got != want {
				t.Fatalf("seed %d with %q: %q, not %q", seed, c, got, want)
			}
			var with []string
			inserted := map[int]bool{}
			for _, line := range lines {
				for r.Intn(3) == 0 {
					inserted[len(with)] = true
					with = append(with, []string{"collect", "start", "step"}[r.Intn(3)])
				}
				with = append(with, line)
			}
			var rest []string
			for i, line := range strings.Split(world.Run(c, strings.Join(with, "\n")), "\n") {
				if !inserted[i] {
					rest = append(rest, line)
				}
			}
			if got := strings.Join(rest, "\n"); got != want {
				t.Fatalf("seed %d with %q and collections: %q, not %q", seed, c, got, want)
			}
		}
	}
}

// TestRunIsDo compares the output with the replies of a heap (W8).
func TestRunIsDo(t *testing.T) {
	r := rand.New(rand.NewSource(36))
	for range 50 {
		text := strings.Join(randomScript(r, 40), "\n")
		l, _, e := script.Read(text)
		h, _ := heap.New(conf())
		want := ""
		for _, x := range l {
			want += world.Reply(x.Kind, h.Do(x)) + "\n"
		}
		n, words := h.Live()
		want += "live " + strconv.Itoa(n) + " " + strconv.Itoa(words) + "\n"
		if got := world.Run(good, text); got != want || e != api.OK {
			t.Fatalf("%q: %q, not %q", text, got, want)
		}
	}
}
