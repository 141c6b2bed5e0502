package cutler

import (
	"bolster/api"
	"bolster/pair"
)

func (c *Cutler) addCost(a arguments) reply {
	return add(&c.costs, a.numbers, api.MaxBlades)
}

func (c *Cutler) pairs(arguments) reply {
	_, worst, e := pair.Worst(c.costs)
	_, cheapest, f := pair.Cheapest(c.costs)
	_, even, g := pair.Even(c.costs)
	return join(
		numbers("worst").one(worst, e),
		numbers("smooth").list(pair.Smooth(c.costs)),
		numbers("cheapest").one(cheapest, f),
		numbers("even").one(even, g),
	)
}

func (c *Cutler) lacks(a arguments) reply {
	limit := a.numbers[0]
	blades, e := pair.Lacks(c.costs, limit)
	if e == api.ErrNone {
		return numbers("count").one(pair.Count(c.costs, limit))
	}
	return numbers("lacks").list(blades, e)
}

func (c *Cutler) pairing(a arguments) reply {
	return numbers("pairing").list(pair.At(c.costs, a.numbers[0], a.numbers[1]))
}
