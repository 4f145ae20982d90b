package slide

import (
	"ullage/api"
	"ullage/masks"
)

// Peek returns what Load(a) would return, but moves nothing.
func (y *Cycle) Peek(a int) (uint64, api.Errno) {
	if y == nil {
		return 0, api.ErrNil
	}
	k, waits := y.waits(a)
	if !waits {
		return y.memory.Load(a)
	}
	if e := y.rehearse(k); e != api.OK {
		return 0, e
	}
	from, _ := y.plan.Forward().From(a)
	start, _, _ := y.plan.Forward().Object(a)
	return y.moving(from, start, y.headers[start].Pointers), api.OK
}

// rehearse returns the error of touching block k, without moving anything.
func (y *Cycle) rehearse(k int) api.Errno {
	free := y.memory.Room() - y.memory.Used()
	if free >= y.blockPages()+spare {
		return api.OK
	}
	t := trial{cycle: y, free: free, mapped: map[int]bool{}, moved: map[int]int{}}
	frontier, ahead := y.frontier, y.ahead
	for frontier < k && ahead >= y.mostAhead {
		if e := t.move(frontier); e != api.OK {
			return e
		}
		frontier, ahead = y.after(frontier, ahead)
	}
	return t.move(k)
}

// spare is the number of frames that suffice for any touch, beside those of one block: source pages are
// released as fast as destination pages are needed, but for pages that are not full at either end.
const spare = 3

// blockPages returns the number of pages of a block, at least 1.
func (y *Cycle) blockPages() int {
	first, end, _ := y.plan.Range(0)
	return masks.Up(end-first, y.memory.Page()) / y.memory.Page()
}

// trial counts the free frames as if blocks were moved.
type trial struct {
	cycle  *Cycle
	free   int
	mapped map[int]bool // destination pages
	moved  map[int]int  // words of source pages
}

// move counts as if block k were moved.
func (t *trial) move(k int) api.Errno {
	y := t.cycle
	first, end, _ := y.plan.Range(k)
	y.count(first, end-first, func(page, _ int) {
		if !t.mapped[page] && !y.memory.Mapped(page) {
			t.mapped[page] = true
			t.free--
		}
	})
	if t.free < 0 {
		return api.ErrFrames
	}
	pieces, _ := y.plan.Pieces(k)
	for _, p := range pieces {
		y.count(p.From, p.Size, func(page, n int) {
			t.moved[page] += n
			if t.moved[page] == y.waiting[page] && y.memory.Mapped(page) {
				t.free++
			}
		})
	}
	return api.OK
}
