// Package reach finds the objects that a collector has to move.
package reach

import (
	"ullage/api"
	"ullage/extent"
	"ullage/mark"
	"ullage/vmem"
)

// Within returns the objects that are reachable from slots and the sum of their sizes, or ErrLost if the
// memory is not sound or one of them does not lie within the addresses from..top.
func Within(m *vmem.Memory, slots []int, from, top, room int) (*extent.Map, int, api.Errno) {
	objects, e := extent.New(m.Words())
	if e != api.OK {
		return nil, 0, api.ErrLost
	}
	stats, e := mark.Run(m, slots, objects, room)
	if e != api.OK {
		return nil, 0, api.ErrLost
	}
	for start, size := range objects.All() {
		if start < from || start+size > top {
			return nil, 0, api.ErrLost
		}
	}
	return objects, stats.Words, api.OK
}
