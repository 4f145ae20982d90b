package extent_test

import (
	"math"
	"math/rand"
	"testing"

	"ullage/api"
	"ullage/extent"
)

func newMap(t *testing.T, words int) *extent.Map {
	t.Helper()
	m, e := extent.New(words)
	if e != api.OK || m == nil || m.Words() != words || m.Objects() != 0 {
		t.Fatalf("New(%d): error %d", words, e)
	}
	return m
}

func TestNew(t *testing.T) {
	for _, n := range []int{0, -1, api.MaxBits + 1, math.MaxInt, math.MinInt} {
		if m, e := extent.New(n); m != nil || e != api.ErrArg {
			t.Errorf("New(%d): error %d", n, e)
		}
	}
	for _, n := range []int{1, api.MaxBits} {
		m := newMap(t, n)
		if m.Add(0, n) != api.OK || m.Live(0, n) != n {
			t.Errorf("an object of all %d words", n)
		}
	}
}

func TestExample(t *testing.T) {
	m := newMap(t, 10)
	m.Add(3, 3)
	m.Add(6, 1)
	start, size, ok1 := m.Find(5)
	word, ok2 := m.Word(3)
	if m.Live(4, 7) != 3 || start != 3 || size != 3 || word != 6 || !ok1 || !ok2 {
		t.Errorf("Live %d, Find %d %d, Word %d", m.Live(4, 7), start, size, word)
	}
}

func TestAdd(t *testing.T) {
	m := newMap(t, 10)
	m.Add(4, 3)
	for _, c := range []struct {
		start, size int
		want        api.Errno
	}{
		{4, 0, api.ErrSize}, {-1, -1, api.ErrSize}, {99, math.MinInt, api.ErrSize},
		{-1, 1, api.ErrRange}, {10, 1, api.ErrRange}, {3, 8, api.ErrRange}, {0, 11, api.ErrRange}, {5, math.MaxInt, api.ErrRange}, {math.MaxInt, math.MaxInt, api.ErrRange}, {math.MinInt, 5, api.ErrRange},
		{4, 3, api.ErrThere}, {5, 1, api.ErrThere}, {6, 2, api.ErrThere}, {3, 2, api.ErrThere}, {0, 10, api.ErrThere},
		{7, 3, api.OK}, {0, 4, api.OK},
	} {
		if e := m.Add(c.start, c.size); e != c.want {
			t.Errorf("Add(%d, %d): error %d, not %d", c.start, c.size, e, c.want)
		}
	}
	if m.Objects() != 3 || m.Live(0, 10) != 10 {
		t.Error("what was added")
	}
	for _, a := range []int{-1, 1, 5, 10, math.MaxInt, math.MinInt} {
		if n, ok := m.Drop(a); n != 0 || ok {
			t.Errorf("Drop(%d)", a)
		}
	}
}

// model is the number of the object of each word, 0 for none.
type model []int

func (l model) object(a int) (int, int, bool) {
	if a < 0 || a >= len(l) || l[a] == 0 {
		return 0, 0, false
	}
	start, end := a, a
	for start > 0 && l[start-1] == l[a] {
		start--
	}
	for end < len(l) && l[end] == l[a] {
		end++
	}
	return start, end - start, true
}

func (l model) starts() [][2]int {
	var out [][2]int
	for a := range l {
		if start, size, ok := l.object(a); ok && start == a {
			out = append(out, [2]int{start, size})
		}
	}
	return out
}

func (l model) compare(t *testing.T, m *extent.Map, from, to int) {
	t.Helper()
	all := l.starts()
	if m.Objects() != len(all) {
		t.Fatalf("%d objects, not %d", m.Objects(), len(all))
	}
	i := 0
	for start, size := range m.All() {
		if i >= len(all) || all[i] != [2]int{start, size} {
			t.Fatalf("object %d: %d, %d", i, start, size)
		}
		i++
	}
	if i != len(all) {
		t.Fatalf("All yields %d objects", i)
	}
	live, k := 0, 0
	for a := range l {
		start, size, ok := m.Find(a)
		wantStart, wantSize, wantOK := l.object(a)
		if start != wantStart || size != wantSize || ok != wantOK {
			t.Fatalf("Find(%d) = %d, %d, %v", a, start, size, ok)
		}
		if l[a] != 0 && a >= from && a < to {
			live++
		}
		if l[a] != 0 {
			if got, ok := m.Word(k); got != a || !ok {
				t.Fatalf("Word(%d) = %d", k, got)
			}
			k++
		}
	}
	if _, ok := m.Word(k); ok {
		t.Fatalf("Word(%d)", k)
	}
	if got := m.Live(from, to); got != live {
		t.Fatalf("Live(%d, %d) = %d, not %d", from, to, got, live)
	}
	if from <= to && m.Live(math.MinInt, from)+live+m.Live(to, math.MaxInt) != k {
		t.Fatal("live words do not add up")
	}
	want := [2]int{}
	found := false
	for _, o := range all {
		if o[0] >= from && !found {
			want, found = o, true
		}
	}
	if start, size, ok := m.Next(from); [2]int{start, size} != want || ok != found {
		t.Fatalf("Next(%d) = %d, %d, %v", from, start, size, ok)
	}
}

func TestAgainstModel(t *testing.T) {
	r := rand.New(rand.NewSource(18))
	for _, n := range []int{1, 20, 64, 150} {
		m, l := newMap(t, n), make(model, n)
		next := 1
		for range 2000 {
			a, size := r.Intn(n+2)-1, r.Intn(9)
			switch {
			case r.Intn(3) > 0:
				want := api.OK
				switch {
				case size < 1:
					want = api.ErrSize
				case a < 0 || a+size > n:
					want = api.ErrRange
				default:
					for i := a; i < a+size; i++ {
						if l[i] != 0 {
							want = api.ErrThere
						}
					}
				}
				if e := m.Add(a, size); e != want {
					t.Fatalf("Add(%d, %d): error %d, not %d", a, size, e, want)
				}
				if want == api.OK {
					for i := a; i < a+size; i++ {
						l[i] = next
					}
					next++
				}
			case r.Intn(100) == 0:
				m.Wipe()
				clear(l)
			default:
				start, size, ok := l.object(a)
				ok = ok && start == a
				if got, gotOK := m.Drop(a); gotOK != ok || ok && got != size || !ok && got != 0 {
					t.Fatalf("Drop(%d) = %d, %v", a, got, gotOK)
				}
				if ok {
					clear(l[a : a+size])
				}
			}
			l.compare(t, m, r.Intn(n+4)-2, r.Intn(n+4)-2)
		}
	}
}

func TestFarAway(t *testing.T) {
	m := newMap(t, 10)
	m.Add(9, 1)
	for _, a := range []int{-1, 10, math.MaxInt, math.MinInt} {
		if s, n, ok := m.Find(a); s != 0 || n != 0 || ok {
			t.Errorf("Find(%d)", a)
		}
	}
	if s, n, ok := m.Next(math.MinInt); s != 9 || n != 1 || !ok {
		t.Error("Next from below")
	}
	if _, _, ok := m.Next(math.MaxInt); ok {
		t.Error("Next from above")
	}
	if m.Live(math.MaxInt, math.MinInt) != 0 || m.Live(math.MinInt, math.MaxInt) != 1 {
		t.Error("Live")
	}
	for _, k := range []int{-1, 1, math.MaxInt, math.MinInt} {
		if w, ok := m.Word(k); w != 0 || ok {
			t.Errorf("Word(%d)", k)
		}
	}
	for range m.All() {
		break
	}
}

func TestNil(t *testing.T) {
	var m *extent.Map
	_, ok1 := m.Drop(0)
	_, _, ok2 := m.Find(0)
	_, _, ok3 := m.Next(0)
	_, ok4 := m.Word(0)
	if m.Add(0, 1) != api.ErrNil || ok1 || ok2 || ok3 || ok4 || m.Live(0, 9)+m.Objects()+m.Words() != 0 {
		t.Error("nil")
	}
	m.Wipe()
	for range m.All() {
		t.Error("All")
	}
}
