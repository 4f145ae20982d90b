package slide

import (
	"ullage/api"
	"ullage/masks"
	"ullage/vmem"
)

// Conf is the configuration of a cycle: the source range, the destination range, the words of a block,
// the capacity of the stack for marking, and the number of blocks that may be moved ahead of their turn.
type Conf struct{ From, Top, To, Limit, Block, Stack, Ahead int }

// Check returns ErrArg if c is not valid for m.
func Check(m *vmem.Memory, c Conf) api.Errno {
	if m == nil {
		return api.ErrNil
	}
	if !c.sizesValid() || !c.rangesValid(m.Words(), m.Page()) {
		return api.ErrArg
	}
	return api.OK
}

func (c Conf) sizesValid() bool {
	return masks.Power(c.Block) && c.Block <= api.MaxBlock &&
		c.Stack >= 1 && c.Stack <= api.MaxStack &&
		c.Ahead >= 0 && c.Ahead <= api.MaxAhead
}

func (c Conf) rangesValid(words, page int) bool {
	for _, a := range [3]int{c.From, c.To, c.Limit} {
		if a < page || a%page != 0 {
			return false
		}
	}
	if c.Top < c.From || c.Limit < c.To || c.Top > words || c.Limit > words {
		return false
	}
	return min(masks.Up(c.Top, page), c.Limit) <= max(c.From, c.To)
}
