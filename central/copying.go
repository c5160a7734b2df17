package central

import "milestone/api"

// mostCopies is how many may be asked for at most.
const mostCopies = 1 << 30

// copying asks how many copies come along a path.
type copying struct {
	asked
	most int
}

// along is the product of what each device of a path does for it, at most so many. It is cut at each step, so that it never grows too great: a later 0 makes it 0 nevertheless.
func (c *copying) along(path ...int) int {
	c.look()
	c.must(0 <= c.most && c.most <= mostCopies, api.ErrArg)
	for _, device := range path {
		c.must(0 <= device && device < len(c.Devices), api.ErrRange)
	}
	if len(path) == 0 {
		return 0
	}
	last := len(path) - 1
	product := c.delivered(path[last])
	for i, device := range path[:last] {
		product = min(product*c.sent(device, path[i+1]), c.most)
	}
	return min(product, c.most)
}

// sent are how many copies one device sends to another one.
func (c *copying) sent(from, to int) int {
	does := c.deeds[from]
	if does.kind != api.All {
		return 0
	}
	n := 0
	for _, peer := range does.peers {
		if peer == to {
			n++
		}
	}
	return n
}

// delivered is 1, if a device delivers the header, else 0.
func (c *copying) delivered(device int) int {
	if c.deeds[device].kind == api.Deliver {
		return 1
	}
	return 0
}
