package cutler

import "bolster/api"

// clear makes a part of the workshop what it was at first.
func (c *Cutler) clear(a arguments) reply {
	switch a.texts[0] {
	case "river":
		c.flow, c.gains = nil, nil
	case "costs":
		c.costs = nil
	case "oven":
		c.oven = newOven()
	}
	return done(api.OK)
}
