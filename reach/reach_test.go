package reach_test

import (
	"testing"

	"ullage/api"
	"ullage/object"
	"ullage/reach"
	"ullage/vmem"
)

func TestWithin(t *testing.T) {
	m, _ := vmem.New(64, 4, 16)
	m.Need(4, 40)
	object.Make(m, 8, api.Header{Pointers: 1})
	object.Make(m, 20, api.Header{Words: 3})
	object.Make(m, 30, api.Header{})
	object.SetPointer(m, 8, 0, 20)
	for _, c := range []struct {
		slots     []int
		from, top int
		words     int
		want      api.Errno
	}{
		{[]int{8, 0}, 8, 24, 6, api.OK}, {[]int{8, 30}, 4, 31, 7, api.OK}, {nil, 9, 9, 0, api.OK},
		{[]int{8}, 9, 24, 0, api.ErrLost}, {[]int{8}, 8, 23, 0, api.ErrLost}, {[]int{9}, 4, 40, 0, api.ErrLost}, {[]int{-1}, 4, 40, 0, api.ErrLost},
	} {
		objects, words, e := reach.Within(m, c.slots, c.from, c.top, 5)
		if e != c.want || words != c.words || (objects == nil) != (e != api.OK) || objects.Live(0, 64) != c.words {
			t.Errorf("from %d to %d: %d words, error %d", c.from, c.top, words, e)
		}
	}
	if objects, words, e := reach.Within(nil, nil, 0, 0, 1); objects != nil || words != 0 || e != api.ErrLost {
		t.Error("no memory")
	}
}
